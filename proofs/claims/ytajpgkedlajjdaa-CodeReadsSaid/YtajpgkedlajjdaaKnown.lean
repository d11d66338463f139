/- Walks: a new reader, Done, and what is known. -/
import Derived.Test.YtajpgkedlajjdaaAttempt
namespace Go.Proofs.Ytajpgkedlajjdaa
open Go.RowKit

set_option maxRecDepth 100000 in
theorem newReader_any (v : Value) (l : List UInt8) (w : World) (B : Nat) (hv : BytesV w B v l) (hlen : l.length ≤ 70368744177664) :
    Calls Try.prog 21 #[v] w fun e w' => ∃ p, e = .returned (.pointer (some ⟨p, 0, none⟩)) ∧ w.heap.size ≤ p ∧ RdS w' p p (some l) ∧ Below w.heap.size w w' := by
  have hv0 := hide hv
  obtain ⟨A, n, c, rfl⟩ := hv.slice'
  go_enter Try.func21, Try.ntmps21
  go_wp2_with fail
  refine (clone_any _ _ _ _ hv0.out hlen).mono ?_
  rintro e w1 ⟨v1, rfl, h1, h2⟩
  replace h1 := h1.bytes
  have h1' := hide h1
  obtain ⟨A1, n1, c1, rfl⟩ := h1.slice'
  clear h1
  go_wp2_with fail
  go_ret
  refine ⟨w1.heap.size, rfl, h2.size, ?_, h2.alloc h2.size _⟩
  exact ⟨Nat.le_refl _, _, heap_new _ _, (h1'.out.alloc (Nat.le_refl _) _)⟩

def doneOf (st : Option (List UInt8)) : Int := if st = some [] then 0 else 20
set_option maxRecDepth 100000 in
theorem done_any (D p : Nat) (st : Option (List UInt8)) (w : World) (hR : RdS w D p st) :
    Calls Try.prog 33 #[.pointer (some ⟨p, 0, none⟩)] w fun e w' => e = .returned (.int .i64 (doneOf st)) ∧ w = w' := by
  cases st with
  | none =>
    obtain ⟨l, hl⟩ := hR
    obtain ⟨hD, v, hh, -⟩ := hl
    have hc1 : w.cell? ⟨p, 1, none⟩ = some (.bool true) := cell_at hh 1
    replace hh := hide hh
    go_enter Try.func33, Try.ntmps33
    go_wp2_with fail
    go_ret
    exact ⟨rfl, rfl⟩
  | some l =>
    obtain ⟨hD, v, hh, A, c, rfl, -⟩ := hR
    have hc1 : w.cell? ⟨p, 1, none⟩ = some (.bool false) := cell_at hh 1
    have hc0 : w.cell? ⟨p, 0, none⟩ = some (.slice A l.length c) := cell_at hh 0
    replace hh := hide hh
    cases l with
    | nil =>
      go_enter Try.func33, Try.ntmps33
      go_wp2_with fail
      go_ret
      exact ⟨rfl, rfl⟩
    | cons x l =>
      have hd : doneOf (some (x :: l)) = 20 := by unfold doneOf; rw [if_neg (by simp)]
      rw [hd]
      clear hd
      go_enter Try.func33, Try.ntmps33
      go_wp2_with fail
      go_ret
      exact ⟨rfl, rfl⟩

theorem WStep.below {B p : Nat} {w w' : World} {l l' : List UInt8} {v v' : Value} (hW : Wr w B p l v) (h : WStep B p w v w' l' v') : Below B w w' :=
  h.2.1.below hW.base fun k hk => by
    rcases hk with rfl | hk
    · exact hW.1
    · exact (hW.2.2.lt k hk).1
theorem known_bytes : nums ([-1, 1].map zig) = [1, 2] := by
  have h1 : zig (-1) = 1 := rfl
  have h2 : zig 1 = 2 := rfl
  simp only [nums, List.map_cons, List.map_nil, h1, h2, num_small (show 1 < 128 by decide), num_small (show 2 < 128 by decide)]
  rfl
theorem known_read1 : read 0 dint (some [1, 2]) = (-1, some [2]) := by decide
theorem known_read2 : read 0 dint (some [2]) = (1, some []) := by decide
theorem known_read3 : read ByteArray.empty dtext (some []) = (ByteArray.empty, none) := by rfl

set_option maxRecDepth 100000 in
set_option maxHeartbeats 1600000 in
theorem known_any (w : World) : Calls Try.prog 9 #[] w fun e w' => e = .returned (.bool true) ∧ Below w.heap.size w w' := by
  go_enter Try.func9, Try.ntmps9
  go_wp2_with fail
  refine (newWriter_any _).mono ?_
  rintro e w1 ⟨rfl, rfl⟩
  have hW := wr_new w w.heap.size (Nat.le_refl _)
  have hB := hide ((Below.refl w.heap.size w).alloc (Nat.le_refl _) (.cells #[.slice none 0 0] 75))
  have hz : w.heap.size < (w.alloc (.cells #[.slice none 0 0] 75)).heap.size := hW.lt
  generalize w.alloc (.cells #[.slice none 0 0] 75) = w1 at *
  go_wp2_with fail
  refine (wInt_any w.heap.size w.heap.size [] _ [-1, 1] _ _ (hW.alloc _) (ArgV.two (by simp [go_sem]; done) (by simp [go_sem]; done) ?_) ?_ ?_).mono ?_
  · exact fun h => Nat.lt_irrefl _ (Fp.lt hW h)
  · intro n hn; simp at hn; omega
  · simp
  rintro e w2 ⟨rfl, v2, h2⟩
  rw [known_bytes, List.nil_append] at h2
  have hB2 := hide ((hB.out.alloc (Nat.le_of_lt hz) _).trans (h2.below (hW.alloc _)))
  replace h2 := h2.1
  clear hB hW
  go_wp2_with fail
  refine (bytes_any _ _ _ _ _ h2 (by simp)).mono ?_
  rintro e w3 ⟨v3, rfl, h3, hb3⟩
  replace h3 := h3.bytes
  go_wp2_with fail
  refine (newReader_any _ _ _ _ h3 (by simp)).mono ?_
  rintro e w4 ⟨p, rfl, hp, hr4, hb4⟩
  have hW4 := (h2.upd (.of_below (fun _ => False) hb3) fun _ _ => id).upd (.of_below (fun _ => False) hb4) fun _ _ => id
  have hB4 := hide ((hB2.out.trans (hb3.mono hB2.out.size)).trans (hb4.mono (Nat.le_trans hB2.out.size hb3.size)))
  have hp5 := hide (Nat.le_trans (Nat.le_trans hB2.out.size hb3.size) hp)
  clear hb3 hb4 h3 h2 hB2
  go_wp2_with fail
  refine (bytes_any _ _ _ _ _ hW4 (by simp)).mono ?_
  rintro e w5 ⟨v5, rfl, h5, hb5⟩
  replace h5 := h5.bytes
  have hconv := h5.string (P := Try.prog) Try.underlying27 Try.underlying5 Try.underlying9
  have hr5 := hr4.upd (.of_below (fun _ => False) hb5) id fun _ _ => id
  have hB5 := hide (hB4.out.trans (hb5.mono hB4.out.size))
  clear h5
  go_wp2_with fail
  refine (rInt_any p p _ _ hr5).mono ?_
  rintro e w6 ⟨rfl, hU6, hr6⟩
  rw [known_read1] at hr6 ⊢
  unfold i64v
  go_wp2_with fail
  refine (rInt_any p p _ _ hr6).mono ?_
  rintro e w7 ⟨rfl, hU7, hr7⟩
  rw [known_read2] at hr7 ⊢
  unfold i64v
  go_wp2_with fail
  refine (done_any p p _ _ hr7).mono ?_
  rintro e w8 ⟨rfl, rfl⟩
  rw [show doneOf ((1 : Int), some ([] : List UInt8)).2 = 0 from rfl]
  go_wp2_with fail
  refine (rText_any p p _ _ hr7).mono ?_
  rintro e w8 ⟨rfl, hU8, hr8⟩
  rw [known_read3] at hr8 ⊢
  rw [show Value.string (ByteArray.empty, (none : Option (List UInt8))).1 = Value.string ⟨#[]⟩ from rfl]
  go_wp2_with fail
  refine (done_any p p _ _ hr8).mono ?_
  rintro e w9 ⟨rfl, rfl⟩
  rw [show doneOf (ByteArray.empty, (none : Option (List UInt8))).2 = 20 from rfl]
  go_wp2_with fail
  go_ret
  refine ⟨rfl, ?_⟩
  exact hB5.out.trans (((hU6.then hU7).then hU8).below hB5.out.size fun k hk => by rw [show k = p from hk]; exact hp5.out)
end Go.Proofs.Ytajpgkedlajjdaa
