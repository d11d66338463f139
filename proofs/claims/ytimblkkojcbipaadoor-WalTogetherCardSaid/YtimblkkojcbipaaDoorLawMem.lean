/- What the laws' walks share. -/
import Derived.Test.YtimblkkojcbipaaDoorKnown4
import Derived.Test.YtimblkkojcbipaaDoorTabOf
namespace Go.Proofs.YtimblkkojcbipaaDoor
open Go Go.RowKit
theorem below_mv {B : Nat} {w w1 w2 : World} {S S' : Nat → Prop} (h : Below B w w1) (hm : Mv w1 S w2 S') (hB : B ≤ w1.heap.size) (hS : ∀ k, S k → B ≤ k) : Below B w w2 := h.trans (hm.1.below hB hS)
theorem BytesV.arg {w : World} {B : Nat} {v : Value} {l : List UInt8} (h : BytesV w B v l) : ArgV w (· < B) v (bv l) := by
  obtain ⟨A, c, rfl, h1, h2, h3⟩ := h
  have := ArgV.of_sl h3 (by rw [bv_len]; exact h1) h2
  rwa [bv_len] at this
theorem BatV.len {w : World} {B : Nat} {v : Value} {rs : List (List UInt8)} (h : BatV w B v rs) : ∃ A c, v = .slice A rs.length c ∧ c ≤ maxLen := by
  obtain ⟨vs, R, h1, _⟩ := h
  rcases h1.2 with ⟨rfl, h0⟩ | ⟨g, cap, cur, rfl, hb, hg, h1, h2, _⟩
  · rw [h0]; exact ⟨_, _, rfl, Nat.zero_le _⟩
  · exact ⟨_, _, rfl, h2⟩
/-- How long the frames of a batch are. -/
theorem batch_frames (i : Nat) (ls : List UInt8) : (frames (batchL i ls ls.length)).length ≤ ls.length * 263 := by
  have := frames_le_of (batch_each i ls)
  rwa [batchL_len] at this
theorem batch_short (i : Nat) (ls : List UInt8) : ∀ r ∈ batchL i ls ls.length, r.length ≤ 1048576 := fun r hr => by have := batch_each i ls r hr; omega
/-- The log at lb counts n records. -/
def CntV (w : World) (lb n : Nat) : Prop := ∃ sb live x, LogV w lb sb live x ∧ x.records = n
theorem LgC.cnt {n B sb lb : Nat} {S : Nat → Prop} {rs : List (List UInt8)} {w : World} (h : LgC n w B sb lb S rs) : CntV w lb rs.length := by
  obtain ⟨D, live, x, h, _⟩ := h
  exact ⟨_, _, _, h.log, h.holds.lies.recs⟩
theorem CntV.upd {w w' : World} {F : Nat → Prop} {lb n : Nat} (h : CntV w lb n) (hu : Upd F w w') (hF : ¬ F lb) : CntV w' lb n := by
  obtain ⟨sb, live, x, h, h1⟩ := h
  exact ⟨sb, live, x, hu.heap h hF, h1⟩
theorem cnt_any {w : World} {lb n : Nat} (h : CntV w lb n) : Calls Tryd.prog 19 #[.pointer (some ⟨lb, 0, none⟩)] w fun e w' => e = .returned (.int .i64 n) ∧ w = w' := by
  obtain ⟨sb, live, x, h, rfl⟩ := h
  exact count_any h
end Go.Proofs.YtimblkkojcbipaaDoor
