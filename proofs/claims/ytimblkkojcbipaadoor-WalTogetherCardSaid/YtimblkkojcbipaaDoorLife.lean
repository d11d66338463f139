/- A log on a disk, as the laws hold it: made, opened, committed to, reset. -/
import Derived.Test.YtimblkkojcbipaaDoorRecs2
namespace Go.Proofs.YtimblkkojcbipaaDoor
open Go Go.RowKit
/-- The log at lb, on the disk at sb, whose blocks all lie from B on. -/
structure LgS (w : World) (B sb lb : Nat) (S : Nat → Prop) (D : DS) (live : Nat) (x : Ext) (rs : List (List UInt8)) : Prop where
  disk : DiskV w sb S D
  log : LogV w lb sb live x
  on : D.on
  holds : Holds D live x rs
  own : ∀ k, S k → B ≤ k
  low : B ≤ lb
  nlb : ¬ S lb
/-- A disk of n sectors of 256 bytes that holds the records rs, or none and nothing at all. -/
def DkC (n : Nat) (w : World) (B sb : Nat) (S : Nat → Prop) (rs : List (List UInt8)) : Prop :=
  ∃ D live x, DiskV w sb S D ∧ D.on ∧ Fine D ∧ D.n = n ∧ D.size = 256 ∧ (Holds D live x rs ∨ (findP D = none ∧ live = 0 ∧ x = ⟨0, 0, 0⟩ ∧ rs = [])) ∧ ∀ k, S k → B ≤ k
def LgC (n : Nat) (w : World) (B sb lb : Nat) (S : Nat → Prop) (rs : List (List UInt8)) : Prop := ∃ D live x, LgS w B sb lb S D live x rs ∧ D.n = n ∧ D.size = 256
def OL (S : Nat → Prop) (lb : Nat) : Nat → Prop := fun k => S k ∨ k = lb
section
variable {n B sb lb : Nat} {S : Nat → Prop} {rs : List (List UInt8)} {w w' W : World}
theorem LgC.dk (h : LgC n w B sb lb S rs) : DkC n w B sb S rs := by
  obtain ⟨D, live, x, h, h1, h2⟩ := h
  exact ⟨D, live, x, h.disk, h.on, h.holds.fine, h1, h2, .inl h.holds, h.own⟩
theorem LgC.upd {F : Nat → Prop} (h : LgC n w B sb lb S rs) (hu : Upd F w w') (hF : ∀ k, OL S lb k → ¬ F k) : LgC n w' B sb lb S rs := by
  obtain ⟨D, live, x, h, h1⟩ := h
  exact ⟨D, live, x, ⟨h.disk.upd hu fun k hk => hF k (.inl hk), hu.heap h.log (hF _ (.inr rfl)), h.on, h.holds, h.own, h.low, h.nlb⟩, h1⟩
theorem DkC.upd {F : Nat → Prop} (h : DkC n w B sb S rs) (hu : Upd F w w') (hF : ∀ k, S k → ¬ F k) : DkC n w' B sb S rs := by
  obtain ⟨D, live, x, h, h1⟩ := h
  exact ⟨D, live, x, h.upd hu hF, h1⟩
theorem LgC.ge (h : LgC n w B sb lb S rs) {k : Nat} (hk : OL S lb k) : B ≤ k := by
  obtain ⟨D, live, x, h, h1⟩ := h
  rcases hk with hk | rfl
  · exact h.own k hk
  · exact h.low
theorem LgC.old (h : LgC n w B sb lb S rs) {k : Nat} (hk : OL S lb k) : k < w.heap.size := by
  obtain ⟨D, live, x, h, h1⟩ := h
  rcases hk with hk | rfl
  · exact h.disk.old k hk
  · exact (Array.getElem?_eq_some_iff.1 h.log).1
theorem DkC.ge (h : DkC n w B sb S rs) {k : Nat} (hk : S k) : B ≤ k := by
  obtain ⟨D, live, x, h, _, _, _, _, _, h1⟩ := h
  exact h1 k hk
theorem DkC.old (h : DkC n w B sb S rs) {k : Nat} (hk : S k) : k < w.heap.size := by
  obtain ⟨D, live, x, h, h1⟩ := h
  exact h.old k hk
theorem DkC.n1 (h : DkC n w B sb S rs) : 16 ≤ n ∧ n ≤ 4096 := by
  obtain ⟨D, live, x, h, _, h2, h3, _⟩ := h
  exact ⟨by have := h2.n1.1; omega, by have := h2.n1.2; omega⟩
/-- A new disk. -/
theorem new_dk (w : World) (n : Nat) (h1 : 16 ≤ n) (h2 : n ≤ 4096) :
    Calls Tryd.prog 11 #[.int .i64 n, .int .i64 256] w fun e w' => ∃ sb S, e = .returned (.pointer (some ⟨sb, 0, none⟩)) ∧ DkC n w' w.heap.size sb S [] ∧ Below w.heap.size w w' := by
  refine (new_any w n 256 (by omega) h2 (by decide) (by decide)).mono ?_
  rintro e w' ⟨sb, S, he, hD, hS, hb⟩
  exact ⟨sb, S, he, ⟨DS.new n 256, 0, ⟨0, 0, 0⟩, hD, new_on _ _, new_fine ⟨h1, h2⟩ (by decide), rfl, rfl, .inr ⟨new_none, rfl, rfl, rfl⟩, hS⟩, hb⟩
theorem opened_n (D : DS) : D.opened.n = D.n := by
  unfold DS.opened
  split
  · exact DS.flush_n _
  · rw [DS.flush_n, format_n]
theorem opened_size (D : DS) : D.opened.size = D.size := by
  unfold DS.opened
  split
  · exact DS.flush_size _
  · rw [DS.flush_size, format_size]
/-- It is opened. -/
theorem open_dk (h : DkC n W B sb S rs) (hB : 1 ≤ B) (hBz : B ≤ W.heap.size) (hT : Tab W) :
    Calls Tryd.prog 12 #[.pointer (some ⟨sb, 0, none⟩)] W fun e w' => ∃ lb v S', e = .returned (.tuple #[.pointer (some ⟨lb, 0, none⟩), v, .int .i64 0]) ∧ LgC n w' B sb lb S' rs ∧ RecsO w' W.heap.size v rs ∧ (∀ k, Own v k → k ≠ lb) ∧ W.heap.size ≤ lb ∧ Mv W S w' S' := by
  obtain ⟨D, live, x, hD, hon, hf, hn, hs, hH, hS⟩ := h
  refine (open_on hD hon hf hT (fun h => by have := hS 0 h; omega) (by omega) hH).mono ?_
  rintro e w' ⟨lb, v, S', he, h1, h2, h3, h4, h5, h6, h7, h8, h9⟩
  refine ⟨lb, v, S', he, ⟨_, live, x, ⟨h1, h6, h2, h3, fun k hk => ?_, by omega, h5⟩, by rw [opened_n, hn], by rw [opened_size, hs]⟩, h7, h8, h4, h9⟩
  rcases h9.2 k hk with h | h
  · exact hS k h
  · omega
def capC (n : Nat) : Nat := ((n - 3) / 2) * 256
theorem cap_of {D : DS} (hn : D.n = n) (hs : D.size = 256) : capN D = capC n := by unfold capN areaN capC; rw [hn, hs]
/-- Records are added. -/
theorem commit_lg {T : Nat → Prop} {rv : Value} {rs' : List (List UInt8)} (h : LgC n W B sb lb S rs) (hB : 1 ≤ B) (hT : Tab W) (hr : RecsV W T rv rs') (hTd : ∀ k, T k → ¬ OL S lb k) (hrl : rs'.length ≤ 2147483648) (heach : ∀ r ∈ rs', r.length ≤ 1048576)
    (hfit : (frames rs).length + (frames rs').length ≤ capC n) :
    Calls Tryd.prog 18 #[.pointer (some ⟨lb, 0, none⟩), rv] W fun e w' => e = .returned (.int .i64 0) ∧ ∃ S', LgC n w' B sb lb S' (rs ++ rs') ∧ Mv W (OL S lb) w' (OL S' lb) := by
  obtain ⟨D, live, x, h, hn, hs⟩ := h
  have hlb := h.low
  refine (commit_on h.log h.disk h.on h.holds h.nlb hT (fun hk => by have := h.own 0 hk; omega) (by omega) hr (fun k hk => ⟨fun hk' => hTd k hk (.inl hk'), fun e => hTd k hk (.inr e)⟩) hrl heach (by rw [h.holds.lies.bytes, cap_of hn hs]; exact hfit)).mono ?_
  rintro e w' ⟨he, S', h1, h2, h3, h4, h5, h6⟩
  refine ⟨he, S', ⟨_, _, _, ⟨h1, h2, h3, h4, fun k hk => ?_, hlb, fun hk => ?_⟩, by rw [put_n, hn], by rw [put_size, hs]⟩, h5⟩
  · rcases h5.2 k (.inl hk) with (hk | rfl) | hk
    · exact h.own k hk
    · exact hlb
    · have := h.disk.old
      have h7 := (Array.getElem?_eq_some_iff.1 h.log).1
      omega
  · exact h6 hk
end
end Go.Proofs.YtimblkkojcbipaaDoor
