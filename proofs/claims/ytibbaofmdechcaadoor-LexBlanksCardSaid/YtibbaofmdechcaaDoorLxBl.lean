/- Words with blanks between them: their tokens. -/
import Derived.Test.YtibbaofmdechcaaDoorLxK
namespace Go.Proofs.YtibbaofmdechcaaDoor
open Go Go.RowKit

def wordsL : List (List UInt8) := [[97], [98, 49], [95], [48], [49, 55], [61], [61, 61], [33, 61], [33], [60], [60, 61], [38], [38, 38], [124, 124], [40], [93], [44], [59], [102, 110], [42], [37]]
def blanksL : List (List UInt8) := [[32], [10], [9, 13, 32], [32, 35, 32, 120, 32, 61, 32, 49, 10], [32, 32]]
def itemW (c : UInt8) : List UInt8 := wordsL.getD (c.toNat % 21) []
def itemB (c : UInt8) : List UInt8 := blanksL.getD (c.toNat % 5) []
theorem itemW_at (c : UInt8) : wordsL[c.toNat % 21]? = some (itemW c) := by
  have h : c.toNat % 21 < wordsL.length := Nat.mod_lt _ (by decide)
  unfold itemW
  rw [List.getD_eq_getElem?_getD, List.getElem?_eq_getElem h]; rfl
theorem itemB_at (c : UInt8) : blanksL[c.toNat % 5]? = some (itemB c) := by
  have h : c.toNat % 5 < blanksL.length := Nat.mod_lt _ (by decide)
  unfold itemB
  rw [List.getD_eq_getElem?_getD, List.getElem?_eq_getElem h]; rfl
theorem itemW_mem (c : UInt8) : itemW c ∈ wordsL := List.mem_of_getElem? (itemW_at c)
theorem itemB_mem (c : UInt8) : itemB c ∈ blanksL := List.mem_of_getElem? (itemB_at c)
def kindH (c : UInt8) : Nat := if 48 ≤ c.toNat ∧ c.toNat ≤ 57 then 1 else if (97 ≤ c.toNat ∧ c.toNat ≤ 122) ∨ c.toNat = 95 then 0 else 2
def kindW (w : List UInt8) : Nat := kindH (w.headD 0)
theorem run_item {w b : List UInt8} (hw : w ∈ wordsL) (hb : b ∈ blanksL) (i : Nat) (ts : List Tok) (r : List UInt8) : runT .blank i ts (w ++ (b ++ r)) = runT .blank (i + (w.length + b.length)) (ts ++ [⟨kindW w, w, i⟩]) r := by
  simp only [wordsL, blanksL, List.mem_cons, List.not_mem_nil, or_false] at hw hb
  rcases hw with rfl | rfl | rfl | rfl | rfl | rfl | rfl | rfl | rfl | rfl | rfl | rfl | rfl | rfl | rfl | rfl | rfl | rfl | rfl | rfl | rfl
  all_goals rcases hb with rfl | rfl | rfl | rfl | rfl
  all_goals kernel_rfl
theorem word_facts : ∀ w ∈ wordsL, 0 < w.length ∧ w.length ≤ 2 := by decide
theorem blank_facts : ∀ b ∈ blanksL, 0 < b.length ∧ b.length ≤ 9 := by decide

/-- Pairs of a word and a blank. -/
abbrev Itm := List UInt8 × List UInt8
def Itm.fine (p : Itm) : Prop := p.1 ∈ wordsL ∧ p.2 ∈ blanksL
def catT (ps : List Itm) : List UInt8 := (ps.map fun p => p.1 ++ p.2).flatten
def toksT : Nat → List Itm → List Tok
  | _, [] => []
  | i, p :: r => ⟨kindW p.1, p.1, i⟩ :: toksT (i + (p.1.length + p.2.length)) r
theorem toksT_len : ∀ (ps : List Itm) (i : Nat), (toksT i ps).length = ps.length
  | [], _ => rfl
  | p :: r, i => by rw [toksT, List.length_cons, toksT_len r, List.length_cons]
theorem run_items : ∀ (ps : List Itm) (i : Nat) (ts : List Tok) (tail : List UInt8), (∀ p ∈ ps, Itm.fine p) → runT .blank i ts (catT ps ++ tail) = runT .blank (i + (catT ps).length) (ts ++ toksT i ps) tail
  | [], i, ts, tail, _ => by simp [catT, toksT]
  | p :: r, i, ts, tail, h => by
    have hp := h p (List.mem_cons_self ..)
    have e : catT (p :: r) = p.1 ++ (p.2 ++ catT r) := by unfold catT; rw [List.map_cons, List.flatten_cons, List.append_assoc]
    rw [e, List.append_assoc, List.append_assoc, run_item hp.1 hp.2, run_items r _ _ tail fun q hq => h q (List.mem_cons_of_mem _ hq)]
    rw [toksT, List.append_assoc, List.singleton_append, List.length_append, List.length_append]
    congr 1
    omega
theorem lex_items {ps : List Itm} (h : ∀ p ∈ ps, Itm.fine p) (hl : (catT ps).length ≤ 4096) : lexT (catT ps) = .ok (toksT 0 ps) := by
  unfold lexT
  rw [if_neg (by omega), run_items ps 0 [] [10] h, List.nil_append, runT_ok (st := .blank) rfl rfl]
  rfl
theorem toksT_at : ∀ (ps : List Itm) (i k : Nat) (h : k < ps.length), (toksT i ps)[k]? = some ⟨kindW ps[k].1, ps[k].1, i + (catT (ps.take k)).length⟩
  | p :: r, i, 0, _ => by rw [toksT]; rfl
  | p :: r, i, k + 1, h => by
    rw [toksT, List.getElem?_cons_succ, toksT_at r _ k (by simpa using h)]
    have e : catT ((p :: r).take (k + 1)) = p.1 ++ (p.2 ++ catT (r.take k)) := by unfold catT; rw [List.take_succ_cons, List.map_cons, List.flatten_cons, List.append_assoc]
    rw [e, List.length_append, List.length_append]
    congr 2
    omega
theorem catT_snoc {ps : List Itm} {k : Nat} (h : k < ps.length) : catT (ps.take (k + 1)) = catT (ps.take k) ++ (ps[k].1 ++ ps[k].2) := by
  unfold catT
  rw [List.take_succ_eq_append_getElem h, List.map_append, List.flatten_append]
  simp
theorem catT_part {ps : List Itm} {k : Nat} (h : k < ps.length) : ∃ z, catT ps = catT (ps.take k) ++ (ps[k].1 ++ z) := by
  refine ⟨ps[k].2 ++ catT (ps.drop (k + 1)), ?_⟩
  have e : ps = ps.take k ++ (ps[k] :: ps.drop (k + 1)) := by rw [← List.drop_eq_getElem_cons h, List.take_append_drop]
  have e2 : catT ps = catT (ps.take k ++ (ps[k] :: ps.drop (k + 1))) := by rw [← e]
  rw [e2]
  unfold catT
  rw [List.map_append, List.flatten_append, List.map_cons, List.flatten_cons, List.append_assoc]
theorem catT_le : ∀ (ps : List Itm), (∀ p ∈ ps, Itm.fine p) → (catT ps).length ≤ 11 * ps.length
  | [], _ => by simp [catT]
  | p :: r, h => by
    have hp := h p (List.mem_cons_self ..)
    have e : catT (p :: r) = p.1 ++ (p.2 ++ catT r) := by unfold catT; rw [List.map_cons, List.flatten_cons, List.append_assoc]
    have h1 := (word_facts _ hp.1).2
    have h2 := (blank_facts _ hp.2).2
    have h3 := catT_le r fun q hq => h q (List.mem_cons_of_mem _ hq)
    rw [e, List.length_append, List.length_append, List.length_cons]
    omega
theorem catT_cut {ps : List Itm} {k : Nat} (h : k < ps.length) : ((catT ps).drop (catT (ps.take k)).length).take ps[k].1.length = ps[k].1 := by
  obtain ⟨z, hz⟩ := catT_part h
  rw [hz, List.drop_left, List.take_left]
theorem catT_room {ps : List Itm} {k : Nat} (h : k < ps.length) : (catT (ps.take k)).length + ps[k].1.length ≤ (catT ps).length := by
  obtain ⟨z, hz⟩ := catT_part h
  rw [hz, List.length_append, List.length_append]; omega
/-- The items of the two lists. -/
def itemsOf (l b : List UInt8) : List Itm := List.zip (l.map itemW) (b.map itemB)
theorem itemsOf_len {l b : List UInt8} (h : l.length ≤ b.length) : (itemsOf l b).length = l.length := by unfold itemsOf; simp; omega
theorem itemsOf_at {l b : List UInt8} {k : Nat} (h : k < (itemsOf l b).length) (h1 : k < l.length) (h2 : k < b.length) : (itemsOf l b)[k] = (itemW l[k], itemB b[k]) := by
  have h3 : k < (List.zip (l.map itemW) (b.map itemB)).length := h
  show (List.zip (l.map itemW) (b.map itemB))[k]'h3 = _
  rw [List.getElem_zip, List.getElem_map, List.getElem_map]
theorem items_get {l b : List UInt8} {k : Nat} (h1 : k < l.length) (h2 : k < b.length) : (itemsOf l b)[k]? = some (itemW l[k], itemB b[k]) := by
  have h3 : k < (itemsOf l b).length := by unfold itemsOf; simp; omega
  rw [List.getElem?_eq_getElem h3, itemsOf_at h3 h1 h2]
theorem itemsOf_fine (l b : List UInt8) : ∀ p ∈ itemsOf l b, Itm.fine p := by
  intro p hp
  obtain ⟨h1, h2⟩ := List.of_mem_zip hp
  rw [List.mem_map] at h1 h2
  obtain ⟨x, -, hx⟩ := h1
  obtain ⟨y, -, hy⟩ := h2
  exact ⟨by rw [← hx]; exact itemW_mem x, by rw [← hy]; exact itemB_mem y⟩
end Go.Proofs.YtibbaofmdechcaaDoor
