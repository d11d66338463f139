/- Two lists of tokens held against one another, where they are the same; a token of a list. -/
import Derived.Test.YtibbaofmdechcaaDoorLxG
import Derived.BigQuiet
namespace Go.Proofs.YtibbaofmdechcaaDoor
open Go Go.RowKit

theorem flat_get {α : Type} (f : α → List Value) (k : Nat) (hf : ∀ a, (f a).length = k) : ∀ (l : List α) (i : Nat) (h : i < l.length) (j : Nat), j < k → (l.map f).flatten[k * i + j]? = (f l[i])[j]?
  | a :: l, 0, _, j, hj => by
    rw [List.map_cons, List.flatten_cons, List.getElem?_append_left (by rw [hf]; omega)]
    simp
  | a :: l, i + 1, h, j, hj => by
    rw [List.map_cons, List.flatten_cons, List.getElem?_append_right (by rw [hf, Nat.mul_succ]; omega), hf, show k * (i + 1) + j - k = k * i + j by rw [Nat.mul_succ]; omega]
    exact flat_get f k hf l i (by simpa using h) j hj
/-- A slice of tokens. -/
theorem ToksR.slice {w : World} {B : Nat} {v : Value} {ts : List Tok} (h : ToksR w B v ts) : ∃ A c, v = .slice A ts.length c ∧ ts.length ≤ maxLen := by
  rcases h.2 with ⟨rfl, h0⟩ | ⟨g, cap, cur, rfl, _, _, h1, h2, _⟩
  · rw [h0]; exact ⟨_, _, rfl, Nat.zero_le _⟩
  · exact ⟨_, _, rfl, Nat.le_trans h1 h2⟩
/-- Its i-th token's cells. -/
theorem ToksR.get {w : World} {B : Nat} {A : Option Addr} {n c : Nat} {ts : List Tok} (h : ToksR w B (.slice A n c) ts) {i : Nat} (hi : i < ts.length) :
    ∃ b, A = some ⟨b, 0, none⟩ ∧ B ≤ b ∧ w.cell? ⟨b, i * 3, none⟩ = some (.int .i64 ts[i].kind) ∧ w.cell? ⟨b, i * 3 + 1, none⟩ = some (.string (strB ts[i].text)) ∧ w.cell? ⟨b, i * 3 + 2, none⟩ = some (.int .i64 ts[i].at_) := by
  have key : ∀ b, A = some ⟨b, 0, none⟩ → ∀ (j : Nat) (u : Value), j < 3 → (Tok.cells ts[i])[j]? = some u → w.cell? ⟨b, i * 3 + j, none⟩ = some u := by
    rintro b rfl j u hj hu
    have h1 := World.ownsRow.cells (g := b) h rfl (3 * i + j) u ((flat_get Tok.cells 3 (fun _ => rfl) ts i hi j hj).trans hu)
    rw [Go.WideShapes.add_plain] at h1
    rw [← h1]
    congr 2
    omega
  rcases h.2 with ⟨h1, h0⟩ | ⟨g, cap, cur, h1, hb, _⟩
  · omega
  · injection h1 with e1 _ _
    subst e1
    exact ⟨g, rfl, hb, key g rfl 0 _ (by decide) rfl, key g rfl 1 _ (by decide) rfl, key g rfl 2 _ (by decide) rfl⟩

theorem ToksR.get' {w : World} {B : Nat} {A : Option Addr} {n c : Nat} {ts : List Tok} (h : ToksR w B (.slice A n c) ts) {i : Nat} {t : Tok} (hi : ts[i]? = some t) :
    ∃ b, A = some ⟨b, 0, none⟩ ∧ B ≤ b ∧ w.cell? ⟨b, i * 3, none⟩ = some (.int .i64 t.kind) ∧ w.cell? ⟨b, i * 3 + 1, none⟩ = some (.string (strB t.text)) ∧ w.cell? ⟨b, i * 3 + 2, none⟩ = some (.int .i64 t.at_) := by
  obtain ⟨h1, rfl⟩ := List.getElem?_eq_some_iff.1 hi
  exact h.get h1

set_option maxRecDepth 100000 in
set_option maxHeartbeats 1600000 in
theorem sameToks_any (B B2 : Nat) (va vb : Value) (ts : List Tok) (w : World) (ha : ToksR w B va ts) (hb : ToksR w B2 vb ts) :
    Calls Tryd.prog 11 #[va, vb] w fun e w' => e = .returned (.bool true) ∧ Below w.heap.size w w' := by
  obtain ⟨Aa, ca, rfl, hna⟩ := ha.slice
  obtain ⟨Ab, cb, rfl, -⟩ := hb.slice
  unfold maxLen at hna
  replace ha := hide ha
  replace hb := hide hb
  go_enter Tryd.func11, Tryd.ntmps11
  go_wp2_with fail
  go_loopw [5] (fun i wr => ∃ k : Nat, k ≤ ts.length ∧ i = .int .i64 k ∧ Below w.heap.size w wr) (fun i _ => ts.length - (intOf i).toNat)
  case atStart => exact ⟨0, Nat.zero_le _, rfl, Below.refl _ _⟩
  case round =>
    obtain ⟨k, hk, rfl, hB⟩ := hrel
    by_cases hlt : k < ts.length
    · obtain ⟨b, rfl, -, p0, p1, p2⟩ := (ha.out.below hB).get hlt
      obtain ⟨b2, rfl, -, q0, q1, q2⟩ := (hb.out.below hB).get hlt
      generalize ts[k].kind = x0 at *
      generalize ts[k].text = x1 at *
      generalize ts[k].at_ = x2 at *
      have hlt' : (k : Int) < (ts.length : Int) := by omega
      replace hB := hide hB
      go_wp2_with fail
      go_quiet (fail)
      go_wp2_with fail
      go_roundw
      case rel => exact ⟨k + 1, by omega, by go_num, ⟨hB.out.os, hB.out.tape, hB.out.output, hB.out.size, hB.out.block⟩⟩
      case measure => simp [intOf]; omega
    · obtain rfl : k = ts.length := by omega
      have hlt' : ¬ ((ts.length : Int) < (ts.length : Int)) := by omega
      replace hB := hide hB
      go_wp2_with fail
      go_ret
      exact ⟨rfl, hB.out⟩
end Go.Proofs.YtibbaofmdechcaaDoor
