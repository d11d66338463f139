/- Part 17 of the walks (merged): PairGone, Tbl, LayClone, Change, LayMap, CloneM, LayPairs, Long, StV, LifeZ, OpenS. -/
import Derived.Test.YtpnboihbifhigaaGreatDoorM16
import Derived.StringKeys
import Derived.Shelf.Strconv.Clone
import Derived.Test.YtpnboihbifhigaaGreatDoorProg
import Derived.Shelf.SlMaps.Clone
import Derived.Shelf.SlicesQ.IndexFunc
import Derived.Test.YtpnboihbifhigaaGreatDoorM13
/- The store: a pair that is gone out of its record. -/
namespace Go.Proofs.YtpnboihbifhigaaGreatDoor
open Go Go.RowKit
open Cd (RdS dtext)
set_option maxRecDepth 100000 in
set_option maxHeartbeats 1000000 in
theorem pairOf_gone {w : World} {B : Nat} {v : Value} {k : ByteArray} (hk : k.size ≤ 4294967296) (hnl : k.size ≤ 1048512) (hv : BytesV w B v (Cd.texts [goneB, k])) :
    Calls Tryz.prog 29 #[v] w fun e w' => e = .returned (.tuple #[.agg #[.string k, .string ⟨#[]⟩, .bool true], .bool true]) ∧ Below w.heap.size w w' := by
  have hlen := texts2_len goneB k (by decide) hk
  have r1 := read_text goneB [k] (by decide)
  have r2 := read_text k [] hk
  have hN := fun W (h : BytesV W B v (Cd.texts [goneB, k])) => Cd.newReader_any v _ W B h (by omega)
  replace hN := hide hN
  replace hlen := hide hlen
  replace r1 := hide r1
  replace r2 := hide r2
  have hv0 := hide hv
  clear hv
  obtain ⟨A, n, c, rfl⟩ := hv0.out.slice'
  go_enter Tryz.func29, Tryz.ntmps29
  go_wp2_with fail
  obtain ⟨w2, hw2⟩ : ∃ w2, w2 = (w.alloc (.cells #[.string ⟨#[]⟩, .string ⟨#[]⟩, .bool false] 66)).alloc (.cells #[.string ⟨#[]⟩, .string ⟨#[]⟩, .bool false] 66) := ⟨_, rfl⟩
  have hU2 : Upd (fun _ => False) w w2 := by rw [hw2]; exact (Upd.alloc _ _ _).then (Upd.alloc _ _ _)
  have hz2 : w2.heap.size = w.heap.size + 2 := by rw [hw2, World.size_alloc, World.size_alloc]
  have hb2 : Below w.heap.size w w2 := hU2.below (Nat.le_refl _) fun _ h => h.elim
  have ha2 : w2.heap[w.heap.size]? = some (.cells #[.string ⟨#[]⟩, .string ⟨#[]⟩, .bool false] 66) := by rw [hw2]; exact (Upd.alloc (fun _ => False) _ _).heap (heap_new _ _) id
  have hc2 : w2.heap[w.heap.size + 1]? = some (.cells #[.string ⟨#[]⟩, .string ⟨#[]⟩, .bool false] 66) := by rw [hw2, show w.heap.size + 1 = (w.alloc (.cells #[.string ⟨#[]⟩, .string ⟨#[]⟩, .bool false] 66)).heap.size by rw [World.size_alloc]]; exact heap_new _ _
  rw [← hw2]
  clear hw2
  refine (hN.out w2 (hU2.bytes hv0.out fun _ _ => id)).mono ?_
  rintro e w3 ⟨p, rfl, hp, hR3, hb3⟩
  have ha3 := (Upd.of_below (fun _ => False) hb3).heap ha2 id
  have hc3 := (Upd.of_below (fun _ => False) hb3).heap hc2 id
  have hb3' := hb2.trans (hb3.mono (by omega))
  have hz3 := hb3.size
  replace hb3' := hide hb3'
  replace ha3 := hide ha3
  replace hc3 := hide hc3
  clear hb2 hb3 ha2 hc2 hU2 hv0 hN
  have hs1 : (goneB.toList == [115, 101, 116]) = false := by kernel_rfl
  have hs2 : (goneB.toList == [103, 111, 110, 101]) = true := by kernel_rfl
  have t1 := Cd.rText_any p p _ w3 hR3
  rw [r1.out] at t1
  replace t1 := hide t1
  go_wp2_with fail
  refine t1.out.mono ?_
  rintro e w4 ⟨rfl, hU4, hR4⟩
  clear t1 hR3
  have ha4 := hU4.heap ha3.out (fun h => by unfold Cd.At at h; omega)
  have hc4 := hU4.heap hc3.out (fun h => by unfold Cd.At at h; omega)
  replace hU4 := hide hU4
  replace ha4 := hide ha4
  replace hc4 := hide hc4
  have t2 := Cd.rText_any p p _ w4 hR4
  rw [r2.out, texts_nil] at t2
  replace t2 := hide t2
  go_wp2_with fail
  refine t2.out.mono ?_
  rintro e w6 ⟨rfl, hU6, hR6⟩
  clear t2 hR4
  have ha6 := hU6.heap ha4.out (fun h => by unfold Cd.At at h; omega)
  have hc6 := hU6.heap hc4.out (fun h => by unfold Cd.At at h; omega)
  replace hU6 := hide (hU4.out.then hU6)
  have g0 : w6.cell? ⟨w.heap.size + 1, 0, none⟩ = some (.string ⟨#[]⟩) := by rw [cell_at hc6]; rfl
  have f0 := frozen_at hc6 0
  have hd6 : (w6.setCell ⟨w.heap.size + 1, 0, none⟩ (.string k)).heap[w.heap.size + 1]? = some (.cells #[.string k, .string ⟨#[]⟩, .bool false] 66) := by rw [heap_set hc6]; rfl
  have g1 : (w6.setCell ⟨w.heap.size + 1, 0, none⟩ (.string k)).cell? ⟨w.heap.size + 1, 1, none⟩ = some (.string ⟨#[]⟩) := by rw [cell_at hd6]; rfl
  have f1 := frozen_at hd6 1
  have he6 : ((w6.setCell ⟨w.heap.size + 1, 0, none⟩ (.string k)).setCell ⟨w.heap.size + 1, 1, none⟩ (.string ⟨#[]⟩)).heap[w.heap.size + 1]? = some (.cells #[.string k, .string ⟨#[]⟩, .bool false] 66) := by rw [heap_set hd6]; rfl
  have g2 : ((w6.setCell ⟨w.heap.size + 1, 0, none⟩ (.string k)).setCell ⟨w.heap.size + 1, 1, none⟩ (.string ⟨#[]⟩)).cell? ⟨w.heap.size + 1, 2, none⟩ = some (.bool false) := by rw [cell_at he6]; rfl
  have f2 := frozen_at he6 2
  have hg6 : (((w6.setCell ⟨w.heap.size + 1, 0, none⟩ (.string k)).setCell ⟨w.heap.size + 1, 1, none⟩ (.string ⟨#[]⟩)).setCell ⟨w.heap.size + 1, 2, none⟩ (.bool true)).heap[w.heap.size + 1]? = some (.cells #[.string k, .string ⟨#[]⟩, .bool true] 66) := by rw [heap_set he6]; rfl
  have hUs : Upd (fun q => q = w.heap.size + 1) w6 (((w6.setCell ⟨w.heap.size + 1, 0, none⟩ (.string k)).setCell ⟨w.heap.size + 1, 1, none⟩ (.string ⟨#[]⟩)).setCell ⟨w.heap.size + 1, 2, none⟩ (.bool true)) := ((Upd.set (F := fun q => q = w.heap.size + 1) w6 (a := ⟨w.heap.size + 1, 0, none⟩) rfl _).then (Upd.set (F := fun q => q = w.heap.size + 1) _ (a := ⟨w.heap.size + 1, 1, none⟩) rfl _)).then (Upd.set (F := fun q => q = w.heap.size + 1) _ (a := ⟨w.heap.size + 1, 2, none⟩) rfl _)
  obtain ⟨w7, hw7⟩ : ∃ w7, w7 = ((w6.setCell ⟨w.heap.size + 1, 0, none⟩ (.string k)).setCell ⟨w.heap.size + 1, 1, none⟩ (.string ⟨#[]⟩)).setCell ⟨w.heap.size + 1, 2, none⟩ (.bool true) := ⟨_, rfl⟩
  rw [← hw7] at hg6 hUs
  have hR7 : RdS w7 p p (some []) := by
    obtain ⟨d1, vx, d2, A', c', e1, e2, e3, -⟩ := hR6
    exact ⟨d1, vx, hUs.heap d2 (by omega), A', c', e1, e2, e3, .inl rfl⟩
  have ha7 := hUs.heap ha6 (by omega)
  have hD7 := Cd.done_any p p _ w7 hR7
  have ht7 := tooLongS_any w7 ⟨k, ⟨#[]⟩, true⟩ ⟨hk, by show (0 : Nat) ≤ 4294967296; omega⟩
  replace hUs := hide hUs
  replace ha7 := hide ha7
  replace hg6 := hide hg6
  replace hw7 := hide hw7.symm
  replace hc6 := hide hc6
  replace hd6 := hide hd6
  replace he6 := hide he6
  replace ha6 := hide ha6
  replace hR7 := hide hR7
  replace hD7 := hide hD7
  have ht7 := hide ht7
  clear ha4 hc4 hU4 hR6
  go_wp2_with fail
  rw [hw7.out]
  have hz7 : w2.heap.size ≤ w7.heap.size := by
    have a := hU6.out.size
    have b := hUs.out.size
    omega
  refine hD7.out.mono ?_
  rintro e w8 ⟨rfl, rfl⟩
  have hd0 : Cd.doneOf (some []) = 0 := rfl
  rw [hd0]
  have hlf : PairD.long ⟨k, ⟨#[]⟩, true⟩ = false := by unfold PairD.long; exact decide_eq_false (by show ¬ 1048512 < k.size + 0; omega)
  unfold pairV at ht7
  simp only at ht7
  rw [hlf] at ht7
  have l0 : w7.cell? ⟨w.heap.size + 1, 0, none⟩ = some (.string k) := by rw [cell_at hg6.out]; rfl
  have l1 : w7.cell? ⟨w.heap.size + 1, 1, none⟩ = some (.string ⟨#[]⟩) := by rw [cell_at hg6.out]; rfl
  have l2 : w7.cell? ⟨w.heap.size + 1, 2, none⟩ = some (.bool true) := by rw [cell_at hg6.out]; rfl
  replace ht7 := hide ht7
  clear hD7 hR7
  go_wp2_with fail
  refine ht7.out.mono ?_
  rintro e w8 ⟨rfl, hb8⟩
  clear ht7
  have hU8 := Upd.of_below (fun _ => False) hb8
  have m0 := hU8.cell l0 id
  have m1 := hU8.cell l1 id
  have m2 := hU8.cell l2 id
  have hc8 := hU8.heap ha7.out id
  replace hb8 := hide hb8
  replace hU8 := hide hU8
  clear l0 l1 l2 g0 g1 g2 f0 f1 f2
  have g0 : w8.cell? ⟨w.heap.size, 0, none⟩ = some (.string ⟨#[]⟩) := by rw [cell_at hc8]; rfl
  have f0 := frozen_at hc8 0
  have hd8 : (w8.setCell ⟨w.heap.size, 0, none⟩ (.string k)).heap[w.heap.size]? = some (.cells #[.string k, .string ⟨#[]⟩, .bool false] 66) := by rw [heap_set hc8]; rfl
  have g1 : (w8.setCell ⟨w.heap.size, 0, none⟩ (.string k)).cell? ⟨w.heap.size, 1, none⟩ = some (.string ⟨#[]⟩) := by rw [cell_at hd8]; rfl
  have f1 := frozen_at hd8 1
  have he8 : ((w8.setCell ⟨w.heap.size, 0, none⟩ (.string k)).setCell ⟨w.heap.size, 1, none⟩ (.string ⟨#[]⟩)).heap[w.heap.size]? = some (.cells #[.string k, .string ⟨#[]⟩, .bool false] 66) := by rw [heap_set hd8]; rfl
  have g2 : ((w8.setCell ⟨w.heap.size, 0, none⟩ (.string k)).setCell ⟨w.heap.size, 1, none⟩ (.string ⟨#[]⟩)).cell? ⟨w.heap.size, 2, none⟩ = some (.bool false) := by rw [cell_at he8]; rfl
  have f2 := frozen_at he8 2
  have hg8 : (((w8.setCell ⟨w.heap.size, 0, none⟩ (.string k)).setCell ⟨w.heap.size, 1, none⟩ (.string ⟨#[]⟩)).setCell ⟨w.heap.size, 2, none⟩ (.bool true)).heap[w.heap.size]? = some (.cells #[.string k, .string ⟨#[]⟩, .bool true] 66) := by rw [heap_set he8]; rfl
  have hUt : Upd (fun q => q = w.heap.size) w8 (((w8.setCell ⟨w.heap.size, 0, none⟩ (.string k)).setCell ⟨w.heap.size, 1, none⟩ (.string ⟨#[]⟩)).setCell ⟨w.heap.size, 2, none⟩ (.bool true)) := ((Upd.set (F := fun q => q = w.heap.size) w8 (a := ⟨w.heap.size, 0, none⟩) rfl _).then (Upd.set (F := fun q => q = w.heap.size) _ (a := ⟨w.heap.size, 1, none⟩) rfl _)).then (Upd.set (F := fun q => q = w.heap.size) _ (a := ⟨w.heap.size, 2, none⟩) rfl _)
  obtain ⟨w9, hw9⟩ : ∃ w9, w9 = ((w8.setCell ⟨w.heap.size, 0, none⟩ (.string k)).setCell ⟨w.heap.size, 1, none⟩ (.string ⟨#[]⟩)).setCell ⟨w.heap.size, 2, none⟩ (.bool true) := ⟨_, rfl⟩
  rw [← hw9] at hg8 hUt
  have n0 : w9.cell? ⟨w.heap.size, 0, none⟩ = some (.string k) := by rw [cell_at hg8]; rfl
  have n1 : w9.cell? ⟨w.heap.size, 1, none⟩ = some (.string ⟨#[]⟩) := by rw [cell_at hg8]; rfl
  have n2 : w9.cell? ⟨w.heap.size, 2, none⟩ = some (.bool true) := by rw [cell_at hg8]; rfl
  have hE : Below w.heap.size w w9 := (((hb3'.out.trans (hU6.out.below (by omega) fun q h => by unfold Cd.At at h; omega)).trans (hUs.out.below (by have := hU6.out.size; omega) fun q h => by omega)).trans (hb8.out.mono (by omega))).trans (hUt.below (by have := hb8.out.size; omega) fun q h => by omega)
  replace hc8 := hide hc8
  replace hd8 := hide hd8
  replace he8 := hide he8
  replace hg8 := hide hg8
  replace hUt := hide hUt
  replace hE := hide hE
  replace hw9 := hide hw9.symm
  go_wp2_with fail
  rw [hw9.out]
  refine bodyPost_ret (v := .tuple #[.agg #[.string k, .string ⟨#[]⟩, .bool true], .bool true]) (by simp [results, Tryz.results29, go_sem, n0, n1, n2]) rfl ?_
  exact ⟨rfl, hE.out⟩
end Go.Proofs.YtpnboihbifhigaaGreatDoor
/- The store's table in memory, and the walk of Get. -/
namespace Go.Proofs.YtpnboihbifhigaaGreatDoor
open Go Go.RowKit
/-- An element of the table stands for itself. -/
def heldP (v : Value) : Option (DataW Value × List MemPlace) := match v with | .agg a => some (.held (.agg a), []) | _ => none
theorem heldP_inv {v : Value} {y : DataW Value × List MemPlace} (h : heldP v = some y) : (∃ a, v = .agg a) ∧ y = (.held v, []) := by
  unfold heldP at h
  split at h
  · injection h with h
    exact ⟨⟨_, rfl⟩, h.symm⟩
  · cases h
theorem heldP_val {v u : Value} {ps : List MemPlace} (h : heldP v = some (.held u, ps)) : v = u := by
  have := (heldP_inv h).2
  injection this with h1 _
  injection h1 with h1
  exact h1.symm
abbrev Tbl := List UInt8 → Option ByteArray
def Tbl.put (T : Tbl) (k : List UInt8) (v : ByteArray) : Tbl := fun s => if s = k then some v else T s
def Tbl.del (T : Tbl) (k : List UInt8) : Tbl := fun s => if s = k then none else T s
/-- What the table holds of a key. -/
def entV (k : List UInt8) (v : ByteArray) : Value := .agg #[.string ⟨k.toArray⟩, .string v, .bool false]
def kS (s : List UInt8) : Lit := .string s
theorem str_key : Maps.Keyed Tryz.prog 9 := Maps.string_keyed Tryz.underlying9
/-- The table in block mb holds T. -/
def TblD (D : DV) (T : Tbl) : Prop := (∀ kl, Maps.has D kl = true → ∃ s, kl = kS s) ∧ ∀ s, Maps.has D (kS s) = (T s).isSome ∧ ∀ zd, D.atKey (kS s) zd = match T s with | some v => .held (entV s v) | none => zd
def TblV (w : World) (mb n : Nat) (T : Tbl) : Prop := ∃ D : DV, w.ownsMap Tryz.prog 9 heldP mb n D ∧ TblD D T
theorem TblV.upd {w w' : World} {F : Nat → Prop} {mb n : Nat} {T : Tbl} (h : TblV w mb n T) (hu : Upd F w w') (hn : ¬ F mb) : TblV w' mb n T := by
  obtain ⟨D, ⟨es, clock, hb, r⟩, h2⟩ := h
  exact ⟨D, ⟨es, clock, hu.heap hb hn, r⟩, h2⟩
theorem TblV.lt {w : World} {mb n : Nat} {T : Tbl} (h : TblV w mb n T) : mb < w.heap.size := by
  obtain ⟨D, h1, _⟩ := h
  exact h1.lt
theorem TblV.more {w : World} {mb n n' : Nat} {T : Tbl} (h : TblV w mb n T) (hn : n ≤ n') : TblV w mb n' T := by
  obtain ⟨D, h1, h2⟩ := h
  exact ⟨D, h1.mono hn, h2⟩
theorem TblV.made (w : World) : TblV (w.alloc (.map #[] 0)) w.heap.size 0 (fun _ => none) :=
  ⟨.map [], World.ownsMap_made _ _ _ _, fun kl h => (by simp [Maps.has] at h), fun s => ⟨rfl, fun zd => rfl⟩⟩
theorem kS_ne {s k : List UInt8} (h : s ≠ k) : kS s ≠ kS k := by
  unfold kS
  intro e
  injection e with e
  exact h e
theorem kS_key (s : List UInt8) : WideAt.IsKeyLit (kS s) := trivial
theorem TblD.put {D : DV} {T : Tbl} (hm : Maps.Tidy D) (h : TblD D T) (k : List UInt8) (v : ByteArray) : TblD (D.put (kS k) (.held (entV k v))) (T.put k v) := by
  obtain ⟨h1, h2⟩ := h
  refine ⟨fun kl hkl => ?_, fun s => ?_⟩
  · by_cases e : kl = kS k
    · exact ⟨k, e⟩
    · rw [Maps.has_put_other e] at hkl
      exact h1 kl hkl
  · unfold Tbl.put
    by_cases e : s = k
    · subst e
      rw [if_pos rfl]
      exact ⟨Maps.has_put_same hm.isMap (kS_key _) _, fun zd => Maps.atKey_put_same hm.isMap (kS_key _) _ _⟩
    · rw [if_neg e, Maps.has_put_other (kS_ne e)]
      exact ⟨(h2 s).1, fun zd => by rw [Maps.atKey_put_other (kS_ne e)]; exact (h2 s).2 zd⟩
theorem TblD.del {D : DV} {T : Tbl} (h : TblD D T) (k : List UInt8) : TblD (D.del (kS k)) (T.del k) := by
  obtain ⟨h1, h2⟩ := h
  refine ⟨fun kl hkl => ?_, fun s => ?_⟩
  · by_cases e : kl = kS k
    · exact ⟨k, e⟩
    · rw [Maps.has_del_other e] at hkl
      exact h1 kl hkl
  · unfold Tbl.del
    by_cases e : s = k
    · subst e
      rw [if_pos rfl]
      exact ⟨Maps.has_del_same, fun zd => Maps.atKey_del_same _⟩
    · rw [if_neg e, Maps.has_del_other (kS_ne e)]
      exact ⟨(h2 s).1, fun zd => by rw [Maps.atKey_del_other (kS_ne e)]; exact (h2 s).2 zd⟩
theorem zero_pair (w : World) : (zeroValue 66).run Tryz.prog w = .ok (.agg #[.string ByteArray.empty, .string ByteArray.empty, .bool false]) w := by kernel_rfl
theorem key_str {s : ByteArray} (h : s.size ≤ 4294967296) : keyOf Tryz.prog 9 (.string s) = some (kS s.data.toList) := Go.WideMaps.keyOf_string_mk Tryz.underlying9 (by unfold maxLen; omega)
set_option maxRecDepth 100000 in
theorem get_any {w : World} {mb n : Nat} {T : Tbl} (h : TblV w mb n T) (k : ByteArray) (hk : k.size ≤ 4294967296) :
    Calls Tryz.prog 24 #[.map (some mb), .string k] w fun e w' => e = .returned (.tuple #[.string ((T k.data.toList).getD ByteArray.empty), .bool (T k.data.toList).isSome]) ∧ Below w.heap.size w w' := by
  obtain ⟨D, m1, m2, m3⟩ := h
  obtain ⟨m5, m6⟩ := m3 k.data.toList
  have hky := key_str hk
  obtain ⟨u, hu⟩ : ∃ u, u = T k.data.toList := ⟨_, rfl⟩
  rw [← hu] at m5 m6 ⊢
  replace m1 := hide m1
  replace m6 := hide m6
  replace m3 := hide m3
  replace m2 := hide m2
  replace hu := hide hu
  cases u with
  | none =>
    have m7 := m6.out (.held (.agg #[.string ByteArray.empty, .string ByteArray.empty, .bool false]))
    replace m7 := hide m7
    go_enter Tryz.func24, Tryz.ntmps24
    go_wp2_with (at_lookup; refine wpList_lookup_own_ok _ rfl _ _ 44 rfl 9 66 str_key Tryz.underlying44 heldP (zero_pair _) (.held (.agg #[.string ByteArray.empty, .string ByteArray.empty, .bool false])) [] rfl mb n D rfl m1.out _ _ rfl hky ?_; intro v ps hv; rw [m5]; rw [m7.out] at hv; obtain rfl := heldP_val hv)
    refine bodyPost_ret (v := .tuple #[.string ByteArray.empty, .bool false]) (by simp [results, Tryz.results24, go_sem]) rfl ?_
    exact ⟨rfl, Below.alloc (Below.refl _ _) (Nat.le_refl _) _⟩
  | some v0 =>
    have m7 := m6.out (.held (.agg #[.string ByteArray.empty, .string ByteArray.empty, .bool false]))
    unfold entV at m7
    replace m7 := hide m7
    go_enter Tryz.func24, Tryz.ntmps24
    go_wp2_with (at_lookup; refine wpList_lookup_own_ok _ rfl _ _ 44 rfl 9 66 str_key Tryz.underlying44 heldP (zero_pair _) (.held (.agg #[.string ByteArray.empty, .string ByteArray.empty, .bool false])) [] rfl mb n D rfl m1.out _ _ rfl hky ?_; intro v ps hv; rw [m5]; rw [m7.out] at hv; obtain rfl := heldP_val hv)
    refine bodyPost_ret (v := .tuple #[.string v0, .bool true]) (by simp [results, Tryz.results24, go_sem]) rfl ?_
    exact ⟨rfl, Below.alloc (Below.refl _ _) (Nat.le_refl _) _⟩
end Go.Proofs.YtpnboihbifhigaaGreatDoor
/- Library functions, laid at this dump: internal/stringslite.Clone. -/
namespace Go.Proofs.YtpnboihbifhigaaGreatDoor
open Go Go.RowKit Go.Shelf
def layClone_ren : Go.Shelf.Ren := ⟨fun | 316 => 82 | n => n, fun | 9 => 9 | 3 => 3 | 4 => 4 | 37 => 62 | 0 => 0 | 127 => 176 | 5 => 5 | n => n, fun | n => n⟩
theorem layClone : Go.Proofs.LaysM.n316 Tryz.prog layClone_ren := {
  mixed := by kernel_rfl
  f316 := Tryz.func82.trans (congrArg some (by kernel_rfl))
  t0 := Tryz.underlying0
  a0 := Tryz.isAgg0
  z0 := Tryz.sizeOf0
  v0 := Tryz.zeroValue0
  t3 := Tryz.underlying3
  a3 := Tryz.isAgg3
  z3 := Tryz.sizeOf3
  v3 := Tryz.zeroValue3
  t4 := Tryz.underlying4
  a4 := Tryz.isAgg4
  z4 := Tryz.sizeOf4
  v4 := Tryz.zeroValue4
  t9 := Tryz.underlying9
  a9 := Tryz.isAgg9
  z9 := Tryz.sizeOf9
  v9 := Tryz.zeroValue9
  t37 := Tryz.underlying62
  a37 := Tryz.isAgg62
  z37 := Tryz.sizeOf62
  v37 := Tryz.zeroValue62
  t127 := Tryz.underlying176
  a127 := Tryz.isAgg176
  z127 := Tryz.sizeOf176
  v127 := Tryz.zeroValue176
  t5 := Tryz.underlying5
  a5 := Tryz.isAgg5
  z5 := Tryz.sizeOf5
  v5 := Tryz.zeroValue5
  i0 := by kernel_rfl
  i3 := by kernel_rfl
  i4 := by kernel_rfl
  i5 := by kernel_rfl
  i9 := by kernel_rfl
  i37 := by kernel_rfl
  i127 := by kernel_rfl }
end Go.Proofs.YtpnboihbifhigaaGreatDoor
/- The store's table: change. -/
namespace Go.Proofs.YtpnboihbifhigaaGreatDoor
open Go Go.RowKit
theorem strClone (s : ByteArray) (w : World) (h : s.size ≤ 281474976710656) : Calls Tryz.prog 50 #[.string s] w fun e w' => e = .returned (.string s) ∧ Below w.heap.size w w' := by
  have hc := fun W => Any.stringslite_Clone layClone s W h
  replace hc := hide hc
  go_enter Tryz.func50, Tryz.ntmps50
  go_wp2_with fail
  refine (hc.out w).mono ?_
  rintro e w' ⟨rfl, hb⟩
  replace hb := hide hb
  go_wp2_with fail
  go_ret
  exact ⟨rfl, hb.out⟩
/-- A change of the table by one pair, and by many. -/
def Tbl.ch (T : Tbl) (p : PairD) : Tbl := if p.gone then T.del p.key.data.toList else T.put p.key.data.toList p.val
def Tbl.chs (T : Tbl) (ps : List PairD) : Tbl := ps.foldl Tbl.ch T
theorem Tbl.chs_snoc (T : Tbl) (ps : List PairD) (p : PairD) : T.chs (ps ++ [p]) = (T.chs ps).ch p := by simp [Tbl.chs]
theorem Upd.turned {w w' : World} {F : Nat → Prop} {b : Nat} (h : w.mapTurned w' b) (hF : F b) : Upd F w w' := Upd.grown h.grown fun k hk => by injection hk with hk; exact hk ▸ hF
theorem ownsMap_upd {w w' : World} {F : Nat → Prop} {mb n : Nat} {D : DV} (h : w.ownsMap Tryz.prog 9 heldP mb n D) (hu : Upd F w w') (hn : ¬ F mb) : w'.ownsMap Tryz.prog 9 heldP mb n D := by
  obtain ⟨es, clock, hb, r⟩ := h
  exact ⟨es, clock, hu.heap hb hn, r⟩
theorem TblV.del {w : World} {mb n : Nat} {D : DV} {T : Tbl} {k : List UInt8} (h1 : w.ownsMap Tryz.prog 9 heldP mb n (D.del (kS k))) (h2 : TblD D T) : TblV w mb n (T.del k) := ⟨_, h1, h2.del k⟩
theorem TblV.put {w : World} {mb n : Nat} {D : DV} {T : Tbl} {k : List UInt8} {v : ByteArray} (h1 : w.ownsMap Tryz.prog 9 heldP mb n (D.put (kS k) (.held (entV k v)))) (hm : Maps.Tidy D) (h2 : TblD D T) : TblV w mb n (T.put k v) := ⟨_, h1, h2.put hm k v⟩
set_option maxRecDepth 100000 in
set_option maxHeartbeats 1000000 in
theorem change_any {w : World} {S : Nat → Prop} {v : Value} {ps : List PairD} {mb n : Nat} {T : Tbl} (hT : TblV w mb n T) (h : PrsV w S v ps) (hS : ∀ k, S k → k ≠ mb) (hok : ∀ p ∈ ps, p.key.size ≤ 4294967296 ∧ p.val.size ≤ 4294967296) (hn : n + ps.length ≤ 4294967295) :
    Calls Tryz.prog 30 #[.map (some mb), v] w fun e w' => e = .returned (.tuple #[]) ∧ TblV w' mb (n + ps.length) (T.chs ps) ∧ Upd (fun k => k = mb) w w' := by
  have ha := h
  obtain ⟨A, c, rfl, hc1, hc2, -⟩ := id h
  have hc3 : c ≤ 9223372036854775807 := by unfold maxLen at hc2; exact hc2
  have hlt0 := hT.lt
  replace ha := hide ha
  replace hok := hide hok
  replace hS := hide hS
  replace hT := hide hT
  clear hc2 h
  go_enter Tryz.func30, Tryz.ntmps30
  go_wp2_with fail
  go_loopw [9] (fun i wr => ∃ k : Nat, k ≤ ps.length ∧ i = .int .i64 k ∧ TblV wr mb (n + k) (T.chs (ps.take k)) ∧ Upd (fun q => q = mb) w wr) (fun i _ => ps.length - (intOf i).toNat)
  case atStart => exact ⟨0, Nat.zero_le _, rfl, by simpa [Tbl.chs] using hT.out, .refl _ _⟩
  case round =>
    obtain ⟨k, hk, rfl, hb, hU⟩ := hrel
    have zr := hU.size
    rcases Nat.lt_or_ge k ps.length with hlt | hge
    · obtain ⟨b, o, rfl, hSb, g0, g1, g2⟩ := (ha.out.upd hU hS.out).at_ hlt
      have hok1 := hok.out _ (List.getElem_mem hlt)
      have hsn : T.chs (ps.take (k + 1)) = (T.chs (ps.take k)).ch ps[k] := by rw [List.take_succ_eq_append_getElem hlt, Tbl.chs_snoc]
      generalize ps[k] = p at *
      obtain ⟨pk, pv, pg⟩ := p
      simp only at g0 g1 g2 hok1
      have hky := key_str hok1.1
      have hc1 := fun W => strClone pk W (by have := hok1.1; omega)
      have hc2 := fun W => strClone pv W (by have := hok1.2; omega)
      replace hb := hide hb
      replace hU := hide hU
      replace hsn := hide hsn
      replace hc1 := hide hc1
      replace hc2 := hide hc2
      replace hky := hide hky
      obtain ⟨D, d1, d2⟩ := id hb.out
      have d1' : ∀ ob, (wr.alloc ob).ownsMap Tryz.prog 9 heldP mb (n + k) D := fun ob => ownsMap_upd d1 (Upd.alloc (fun _ => False) wr ob) id
      replace d1' := hide d1'
      replace d1 := hide d1
      replace d2 := hide d2
      cases pg with
      | true =>
        have hch : (T.chs (ps.take k)).ch ⟨pk, pv, true⟩ = (T.chs (ps.take k)).del pk.data.toList := rfl
        replace hch := hide hch
        go_wp2_with (at_delete; refine wpList_delete_own _ rfl _ _ 44 9 rfl 66 str_key Tryz.underlying44 heldP mb (n + k) D rfl (d1'.out _) _ _ rfl hky.out ?_; intro w1 hown1 hturn1)
        have hTf : TblV w1 mb (n + (k + 1)) (T.chs (ps.take (k + 1))) := by
          rw [hsn.out, hch.out]
          exact (TblV.del hown1 d2.out).more (by omega)
        have hUf : Upd (fun q => q = mb) w w1 := (hU.out.trans (Upd.alloc (fun _ => False) wr _) fun _ _ h => h.elim).then (Upd.turned hturn1 rfl)
        replace hTf := hide hTf
        replace hUf := hide hUf
        clear hown1 hturn1
        go_wp2_with fail
        go_roundw
        case rel => exact ⟨k + 1, hlt, by go_num, hTf.out, hUf.out⟩
        case measure => simp [intOf]; omega
      | false =>
        have hch : (T.chs (ps.take k)).ch ⟨pk, pv, false⟩ = (T.chs (ps.take k)).put pk.data.toList pv := rfl
        replace hch := hide hch
        go_wp2_with fail
        obtain ⟨w1, hw1⟩ : ∃ w1, w1 = wr.alloc (.cells #[.string pk, .string pv, .bool false] 66) := ⟨_, rfl⟩
        have hU1 : Upd (fun _ => False) wr w1 := by rw [hw1]; exact .alloc _ _ _
        have hcell : w1.cell? ⟨wr.heap.size, 1, none⟩ = some (.string pv) := by rw [hw1, cell_at (heap_new _ _)]; rfl
        have hz1 : wr.heap.size < w1.heap.size := by rw [hw1, World.size_alloc]; omega
        rw [← hw1]
        clear hw1
        refine (hc1.out w1).mono ?_
        rintro e w2 ⟨rfl, hb2⟩
        have hU2 := hU1.then (Upd.of_below (fun _ => False) hb2)
        have hcell2 := (Upd.of_below (fun _ => False) hb2).cell hcell id
        have hz2 := hb2.size
        replace hU2 := hide hU2
        replace hb2 := hide hb2
        replace hU1 := hide hU1
        go_wp2_with fail
        refine (hc2.out w2).mono ?_
        rintro e w3 ⟨rfl, hb3⟩
        have hU3 := hU2.out.then (Upd.of_below (fun _ => False) hb3)
        have d3 := ownsMap_upd d1.out hU3 id
        replace hU3 := hide hU3
        replace hb3 := hide hb3
        replace d3 := hide d3
        go_wp2_with (at_mapUpdate; refine wpList_mapUpdate_in _ rfl _ _ _ 44 rfl 9 66 str_key Tryz.underlying44 heldP mb (n + k) D rfl d3.out (by unfold maxLen; omega) _ _ _ rfl rfl hky.out _ [] rfl ?_; intro w4 hown1 hturn1)
        have hTf : TblV w4 mb (n + (k + 1)) (T.chs (ps.take (k + 1))) := by
          rw [hsn.out, hch.out]
          exact (TblV.put hown1 (d1.out.tidy str_key) d2.out).more (by omega)
        have hUf : Upd (fun q => q = mb) w w4 := (hU.out.trans hU3.out fun _ _ h => h.elim).then (Upd.turned hturn1 rfl)
        replace hTf := hide hTf
        replace hUf := hide hUf
        clear hown1 hturn1
        go_wp2_with fail
        go_roundw
        case rel => exact ⟨k + 1, hlt, by go_num, hTf.out, hUf.out⟩
        case measure => simp [intOf]; omega
    · obtain rfl : k = ps.length := by omega
      rw [List.take_length] at hb
      replace hb := hide hb
      replace hU := hide hU
      go_wp2_with fail
      refine bodyPost_end (results_none rfl _ _ _) rfl ?_
      exact ⟨rfl, hb.out, hU.out⟩
end Go.Proofs.YtpnboihbifhigaaGreatDoor
/- Library functions, laid at this dump: maps.Clone. -/
namespace Go.Proofs.YtpnboihbifhigaaGreatDoor
open Go Go.RowKit Go.Shelf
def layCloneM_ren : Go.Shelf.Ren := ⟨fun | 5 => 60 | 7 => 90 | n => n, fun | 23 => 44 | 25 => 9 | 3 => 66 | 4 => 4 | 20 => 20 | n => n, fun | n => n⟩
theorem layCloneM : Go.Proofs.SlLaysW.n5 Tryz.prog layCloneM_ren := {
  mixed := by kernel_rfl
  f5 := ⟨Tryz.f60.name, by decide, Tryz.func60.trans (congrArg some (by kernel_rfl))⟩
  f7 := Tryz.func90.trans (congrArg some (by kernel_rfl))
  t4 := Tryz.underlying4
  a4 := Tryz.isAgg4
  z4 := Tryz.sizeOf4
  v4 := Tryz.zeroValue4
  t20 := Tryz.underlying20
  a20 := Tryz.isAgg20
  z20 := Tryz.sizeOf20
  v20 := Tryz.zeroValue20
  t23 := Tryz.underlying44
  a23 := Tryz.isAgg44
  z23 := Tryz.sizeOf44
  v23 := Tryz.zeroValue44 }
end Go.Proofs.YtpnboihbifhigaaGreatDoor
/- The store's table: a copy of it. -/
namespace Go.Proofs.YtpnboihbifhigaaGreatDoor
open Go Go.RowKit
theorem cloneM_any {w : World} {mb n : Nat} {T : Tbl} (h : TblV w mb n T) : Calls Tryz.prog 60 #[.map (some mb)] w fun e w' => e = .returned (.map (some w.heap.size)) ∧ TblV w' w.heap.size n T ∧ Below w.heap.size w w' := by
  obtain ⟨D, h1, h2⟩ := h
  refine (AnyW.maps_Clone_owns layCloneM _ heldP mb n D w h1).mono ?_
  rintro e w' ⟨r1, r2, r3, r4⟩
  exact ⟨r1, ⟨D, r2, h2⟩, r4⟩
end Go.Proofs.YtpnboihbifhigaaGreatDoor
/- Library functions, laid at this dump: slices.ContainsFunc. -/
namespace Go.Proofs.YtpnboihbifhigaaGreatDoor
open Go Go.RowKit Go.Shelf
def layContains_ren : Go.Shelf.Ren := ⟨fun | 8 => 33 | 6 => 58 | n => n, fun | 22 => 37 | 23 => 66 | 25 => 85 | 4 => 4 | 3 => 3 | 0 => 0 | n => n, fun | n => n⟩
theorem layContains : Go.Proofs.SlLaysH0.n8 Tryz.prog layContains_ren := {
  mixed := by kernel_rfl
  f6 := ⟨Tryz.f58.name, by decide, Tryz.func58.trans (congrArg some (by kernel_rfl))⟩
  f8 := ⟨Tryz.f33.name, by decide, Tryz.func33.trans (congrArg some (by kernel_rfl))⟩
  t0 := Tryz.underlying0
  a0 := Tryz.isAgg0
  z0 := Tryz.sizeOf0
  v0 := Tryz.zeroValue0
  t3 := Tryz.underlying3
  a3 := Tryz.isAgg3
  z3 := Tryz.sizeOf3
  v3 := Tryz.zeroValue3
  t4 := Tryz.underlying4
  a4 := Tryz.isAgg4
  z4 := Tryz.sizeOf4
  v4 := Tryz.zeroValue4
  t22 := Tryz.underlying37
  a22 := Tryz.isAgg37
  z22 := Tryz.sizeOf37
  v22 := Tryz.zeroValue37
  t25 := Tryz.underlying85
  a25 := Tryz.isAgg85
  z25 := Tryz.sizeOf85
  v25 := Tryz.zeroValue85 }
end Go.Proofs.YtpnboihbifhigaaGreatDoor
/- The store: a batch that holds a pair too long. -/
namespace Go.Proofs.YtpnboihbifhigaaGreatDoor
open Go Go.RowKit
theorem index_none (w : World) (A : Option Addr) (c : Nat) (fv : Value) : Calls Tryz.prog 58 #[.slice A 0 c, fv] w fun e w' => e = .returned (.int .i64 (-1)) ∧ w' = w := by
  go_enter Tryz.func58, Tryz.ntmps58
  go_wp2_with fail
  go_loopw [8] (fun i wr => i = .int .i64 0 ∧ wr = w) (fun _ _ => 0)
  case atStart => exact ⟨rfl, rfl⟩
  case round =>
    obtain ⟨rfl, rfl⟩ := hrel
    go_wp2_with fail
    go_ret
    exact ⟨rfl, rfl⟩
theorem any_pmap {p : PairD → Prop} (f : PairD → Bool) : ∀ (ps : List PairD) (h : ∀ q ∈ ps, p q), (ps.pmap Subtype.mk h).any (fun (x : {q // p q}) => f x.1) = ps.any f
  | [], _ => rfl
  | q :: ps, h => by simp only [List.pmap, List.any_cons, any_pmap f ps]
theorem contains_any {w : World} {S : Nat → Prop} {v : Value} {ps : List PairD} (h : PrsV w S v ps) (hok : ∀ p ∈ ps, p.ok) (hl : ps.length ≤ 4294967295) :
    Calls Tryz.prog 33 #[v, .func (.func 34) #[] #[]] w fun e w' => e = .returned (.bool (ps.any PairD.long)) ∧ Below w.heap.size w w' := by
  have ha := h
  obtain ⟨A, c, rfl, hc1, hc2, -⟩ := id h
  have hc3 : c ≤ 9223372036854775807 := by unfold maxLen at hc2; exact hc2
  cases ps with
  | nil =>
    have hi := fun W => index_none W A c (.func (.func 34) #[] #[])
    replace hi := hide hi
    replace ha := hide ha
    clear h
    go_enter Tryz.func33, Tryz.ntmps33
    go_wp2_with fail
    refine (hi.out w).mono ?_
    rintro e w' ⟨rfl, rfl⟩
    go_wp2_with fail
    go_ret
    exact ⟨rfl, Below.refl _ _⟩
  | cons q qs =>
    obtain ⟨b, o, rfl, hSb, g0, g1, g2⟩ := h.at_ (k := 0) (by simp)
    have hb : b < w.heap.size := block_lt_of_cell g0
    clear g0 g1 g2
    generalize hps : q :: qs = ps at *
    clear hps
    haveI : Inhabited {p : PairD // p.ok} := ⟨⟨⟨⟨#[]⟩, ⟨#[]⟩, false⟩, by decide, by decide⟩⟩
    have key := AnyQ.slices_ContainsFunc layContains 3 (fun W => Tryz.isAgg66 W) (fun W => Tryz.sizeOf66 W) (fun (x : {p : PairD // p.ok}) => pairCells x.1) (fun _ => rfl) (fun x => x.1.long) 34 #[] (enters_of Tryz.func34 (by kernel_rfl) rfl) b o ps.length c (ps.pmap Subtype.mk hok) w (fun W x hW => (tooLongS_any W x.1 x.2).mono fun e w' h => ⟨h.1, hW.trans (h.2.mono hW.size)⟩) (by simp) (by omega) hb (fun j hj i v hv => by
      have hj' : j < ps.length := by simpa using hj
      obtain ⟨b', o', e, _, g0, g1, g2⟩ := h.at_ hj'
      injection e with e
      injection e with e1 e2
      subst e1 e2
      have e : (List.pmap Subtype.mk ps hok)[j]! = ⟨ps[j], hok _ (List.getElem_mem hj')⟩ := by
        rw [getElem!_pos (List.pmap Subtype.mk ps hok) j hj]
        simp
      rw [e] at hv
      match i, hv with
      | 0, hv => injection hv with hv; exact hv ▸ g0
      | 1, hv => injection hv with hv; exact hv ▸ g1
      | 2, hv => injection hv with hv; exact hv ▸ g2
      | n + 3, hv => simp [pairCells] at hv)
    rw [show (ps.pmap Subtype.mk hok).take ps.length = ps.pmap Subtype.mk hok from List.take_of_length_le (by simp), any_pmap] at key
    exact key
end Go.Proofs.YtpnboihbifhigaaGreatDoor
/- The store's own block; told, and what only looks at it. -/
namespace Go.Proofs.YtpnboihbifhigaaGreatDoor
open Go Go.RowKit
/-- The store in block q: its log in lb, whether it is down, its table in mb. -/
def StV (w : World) (q lb mb : Nat) (down : Bool) : Prop := w.heap[q]? = some (.cells #[.pointer (some ⟨lb, 0, none⟩), .bool down, .map (some mb)] 46)
theorem StV.cell {w : World} {q lb mb : Nat} {down : Bool} (h : StV w q lb mb down) (o : Nat) : w.cell? ⟨q, o, none⟩ = #[Value.pointer (some ⟨lb, 0, none⟩), .bool down, .map (some mb)][o]? := cell_at h o
theorem StV.upd {w w' : World} {F : Nat → Prop} {q lb mb : Nat} {down : Bool} (h : StV w q lb mb down) (hu : Upd F w w') (hn : ¬ F q) : StV w' q lb mb down := hu.heap h hn
theorem StV.lt {w : World} {q lb mb : Nat} {down : Bool} (h : StV w q lb mb down) : q < w.heap.size := block_lt_of_cell (h.cell 0)
theorem told_any {w : World} {q lb mb : Nat} {down : Bool} (h : StV w q lb mb down) (e : Nat) :
    Calls Tryz.prog 51 #[.pointer (some ⟨q, 0, none⟩), .int .i64 e] w fun r w' => r = .returned (.int .i64 e) ∧ StV w' q lb mb (decide (e = 32)) ∧ Upd (fun k => k = q) w w' := by
  have c1 := h.cell 1
  have hlt := h.lt
  have hf : w.frozen? ⟨q, 1, none⟩ = false := by unfold StV at h; simp [World.frozen?, h]
  obtain ⟨d, hd⟩ : ∃ d, d = decide (e = 32) := ⟨_, rfl⟩
  have hde : (((e : Nat) : Int) == (32 : Int)) = d := by rw [hd, Bool.eq_iff_iff, beq_iff_eq, decide_eq_true_eq]; omega
  have hset : StV (w.setCell ⟨q, 1, none⟩ (.bool d)) q lb mb d := by unfold StV at h ⊢; rw [heap_set h]; rfl
  have hU : Upd (fun k => k = q) w (w.setCell ⟨q, 1, none⟩ (.bool d)) := .set (F := fun k => k = q) w (a := ⟨q, 1, none⟩) rfl _
  rw [← hd]
  replace hd := hide hd
  replace hset := hide hset
  replace hU := hide hU
  replace h := hide h
  go_enter Tryz.func51, Tryz.ntmps51
  go_wp2_with fail
  go_ret
  exact ⟨rfl, hset.out, hU.out⟩
end Go.Proofs.YtpnboihbifhigaaGreatDoor
/- A log on a disk of sectors of any size, as the store's laws hold it. -/
namespace Go.Proofs.YtpnboihbifhigaaGreatDoor
open Go Go.RowKit
theorem new_nonez {n z : Nat} (hz : z = 256 ∨ z = 512) : findP (DS.new n z) = none := by
  unfold findP
  have : markP ((DS.new n z).last 0) = none := by
    show markP (List.replicate z 0) = none
    rcases hz with rfl | rfl <;> rfl
  rw [this]
  rfl
/-- A disk of n sectors of z bytes that holds the records rs, or none and nothing at all. -/
def DkZ (n z : Nat) (w : World) (B sb : Nat) (S : Nat → Prop) (rs : List (List UInt8)) : Prop :=
  ∃ D live x, DiskV w sb S D ∧ D.on ∧ Fine D ∧ D.n = n ∧ D.size = z ∧ (Holds D live x rs ∨ (findP D = none ∧ live = 0 ∧ x = ⟨0, 0, 0⟩ ∧ rs = [])) ∧ ∀ k, S k → B ≤ k
def LgZ (n z : Nat) (w : World) (B sb lb : Nat) (S : Nat → Prop) (rs : List (List UInt8)) : Prop := ∃ D live x, LgS w B sb lb S D live x rs ∧ D.n = n ∧ D.size = z
section
variable {n z B sb lb : Nat} {S : Nat → Prop} {rs : List (List UInt8)} {w w' W : World}
theorem LgZ.dk (h : LgZ n z w B sb lb S rs) : DkZ n z w B sb S rs := by
  obtain ⟨D, live, x, h, h1, h2⟩ := h
  exact ⟨D, live, x, h.disk, h.on, h.holds.fine, h1, h2, .inl h.holds, h.own⟩
theorem LgZ.upd {F : Nat → Prop} (h : LgZ n z w B sb lb S rs) (hu : Upd F w w') (hF : ∀ k, OL S lb k → ¬ F k) : LgZ n z w' B sb lb S rs := by
  obtain ⟨D, live, x, h, h1⟩ := h
  exact ⟨D, live, x, ⟨h.disk.upd hu fun k hk => hF k (.inl hk), hu.heap h.log (hF _ (.inr rfl)), h.on, h.holds, h.own, h.low, h.nlb⟩, h1⟩
theorem DkZ.upd {F : Nat → Prop} (h : DkZ n z w B sb S rs) (hu : Upd F w w') (hF : ∀ k, S k → ¬ F k) : DkZ n z w' B sb S rs := by
  obtain ⟨D, live, x, h, h1⟩ := h
  exact ⟨D, live, x, h.upd hu hF, h1⟩
theorem LgZ.ge (h : LgZ n z w B sb lb S rs) {k : Nat} (hk : OL S lb k) : B ≤ k := by
  obtain ⟨D, live, x, h, h1⟩ := h
  rcases hk with hk | rfl
  · exact h.own k hk
  · exact h.low
theorem LgZ.old (h : LgZ n z w B sb lb S rs) {k : Nat} (hk : OL S lb k) : k < w.heap.size := by
  obtain ⟨D, live, x, h, h1⟩ := h
  rcases hk with hk | rfl
  · exact h.disk.old k hk
  · exact (Array.getElem?_eq_some_iff.1 h.log).1
theorem DkZ.ge (h : DkZ n z w B sb S rs) {k : Nat} (hk : S k) : B ≤ k := by
  obtain ⟨D, live, x, h, _, _, _, _, _, h1⟩ := h
  exact h1 k hk
theorem DkZ.old (h : DkZ n z w B sb S rs) {k : Nat} (hk : S k) : k < w.heap.size := by
  obtain ⟨D, live, x, h, h1⟩ := h
  exact h.old k hk
theorem DkZ.n1 (h : DkZ n z w B sb S rs) : 16 ≤ n ∧ n ≤ 4096 := by
  obtain ⟨D, live, x, h, _, h2, h3, _⟩ := h
  exact ⟨by have := h2.n1.1; omega, by have := h2.n1.2; omega⟩
/-- A new disk. -/
theorem new_dkz (w : World) (n z : Nat) (h1 : 16 ≤ n) (h2 : n ≤ 4096) (hz : z = 256 ∨ z = 512) :
    Calls Tryz.prog 11 #[.int .i64 n, .int .i64 z] w fun e w' => ∃ sb S, e = .returned (.pointer (some ⟨sb, 0, none⟩)) ∧ DkZ n z w' w.heap.size sb S [] ∧ Below w.heap.size w w' := by
  refine (new_any w n z (by omega) h2 (by omega) (by omega)).mono ?_
  rintro e w' ⟨sb, S, he, hD, hS, hb⟩
  exact ⟨sb, S, he, ⟨DS.new n z, 0, ⟨0, 0, 0⟩, hD, new_on _ _, new_fine ⟨h1, h2⟩ (by omega), rfl, rfl, .inr ⟨new_nonez hz, rfl, rfl, rfl⟩, hS⟩, hb⟩
/-- It is opened. -/
theorem open_dkz (h : DkZ n z W B sb S rs) (hB : 1 + 1 ≤ B) (hBz : B ≤ W.heap.size) (hT : Tab W) :
    Calls Tryz.prog 28 #[.pointer (some ⟨sb, 0, none⟩)] W fun e w' => ∃ lb v S', e = .returned (.tuple #[.pointer (some ⟨lb, 0, none⟩), v, .int .i64 0]) ∧ LgZ n z w' B sb lb S' rs ∧ RecsO w' W.heap.size v rs ∧ (∀ k, Own v k → k ≠ lb) ∧ W.heap.size ≤ lb ∧ Mv W S w' S' := by
  obtain ⟨D, live, x, hD, hon, hf, hn, hs, hH, hS⟩ := h
  refine (open_on hD hon hf hT (fun h => by have := hS 1 h; omega) (by omega) hH).mono ?_
  rintro e w' ⟨lb, v, S', he, h1, h2, h3, h4, h5, h6, h7, h8, h9⟩
  refine ⟨lb, v, S', he, ⟨_, live, x, ⟨h1, h6, h2, h3, fun k hk => ?_, by omega, h5⟩, by rw [opened_n, hn], by rw [opened_size, hs]⟩, h7, h8, h4, h9⟩
  rcases h9.2 k hk with h | h
  · exact hS k h
  · omega
def capZ (n z : Nat) : Nat := ((n - 3) / 2) * z
theorem cap_ofz {D : DS} (hn : D.n = n) (hs : D.size = z) : capN D = capZ n z := by unfold capN areaN capZ; rw [hn, hs]
/-- Records are added. -/
theorem commit_lgz {T : Nat → Prop} {rv : Value} {rs' : List (List UInt8)} (h : LgZ n z W B sb lb S rs) (hB : 1 + 1 ≤ B) (hT : Tab W) (hr : RecsV W T rv rs') (hTd : ∀ k, T k → ¬ OL S lb k) (hrl : rs'.length ≤ 2147483648) (heach : ∀ r ∈ rs', r.length ≤ 1048576)
    (hfit : (frames rs).length + (frames rs').length ≤ capZ n z) :
    Calls Tryz.prog 59 #[.pointer (some ⟨lb, 0, none⟩), rv] W fun e w' => e = .returned (.int .i64 0) ∧ ∃ S', LgZ n z w' B sb lb S' (rs ++ rs') ∧ Mv W (OL S lb) w' (OL S' lb) := by
  obtain ⟨D, live, x, h, hn, hs⟩ := h
  have hlb := h.low
  refine (commit_on h.log h.disk h.on h.holds h.nlb hT (fun hk => by have := h.own 1 hk; omega) (by omega) hr (fun k hk => ⟨fun hk' => hTd k hk (.inl hk'), fun e => hTd k hk (.inr e)⟩) hrl heach (by rw [h.holds.lies.bytes, cap_ofz hn hs]; exact hfit)).mono ?_
  rintro e w' ⟨he, S', h1, h2, h3, h4, h5, h6⟩
  refine ⟨he, S', ⟨_, _, _, ⟨h1, h2, h3, h4, fun k hk => ?_, hlb, fun hk => ?_⟩, by rw [put_n, hn], by rw [put_size, hs]⟩, h5⟩
  · rcases h5.2 k (.inl hk) with (hk | rfl) | hk
    · exact h.own k hk
    · exact hlb
    · have := h.disk.old
      have h7 := (Array.getElem?_eq_some_iff.1 h.log).1
      omega
  · exact h6 hk
end
end Go.Proofs.YtpnboihbifhigaaGreatDoor
/- The store: Open. -/
namespace Go.Proofs.YtpnboihbifhigaaGreatDoor
open Go Go.RowKit
/-- A pair that a store takes. -/
def PairD.fits (p : PairD) : Prop := p.ok ∧ p.long = false
theorem pairOf_any {w : World} {B : Nat} {v : Value} {p : PairD} (hp : p.fits) (hv : BytesV w B v (recB p)) :
    Calls Tryz.prog 29 #[v] w fun e w' => e = .returned (.tuple #[.agg #[.string p.key, .string p.kept.val, .bool p.gone], .bool true]) ∧ Below w.heap.size w w' := by
  obtain ⟨k, u, g⟩ := p
  obtain ⟨⟨h1, h2⟩, h3⟩ := hp
  simp only at h1 h2
  have h4 : k.size + u.size ≤ 1048512 := by
    unfold PairD.long at h3
    simp only [decide_eq_false_iff_not] at h3
    omega
  cases g with
  | true => exact pairOf_gone h1 (show k.size ≤ 1048512 by omega) hv
  | false => exact pairOf_set h1 h2 h4 hv
theorem Tbl.ch_kept (T : Tbl) (p : PairD) : T.ch ⟨p.key, p.kept.val, p.gone⟩ = T.ch p := by
  obtain ⟨k, u, g⟩ := p
  cases g <;> rfl
theorem PrsV.one {w : World} {g : Nat} {S : Nat → Prop} {p : PairD} {t : TypeId} (h : w.heap[g]? = some (.cells #[.string p.key, .string p.val, .bool p.gone] t)) (hS : S g) : PrsV w S (.slice (some ⟨g, 0, none⟩) 1 1) [p] := by
  refine ⟨some ⟨g, 0, none⟩, 1, rfl, Nat.le_refl _, by unfold maxLen; omega, .inr ⟨g, 0, rfl, hS, fun i u hi => ?_⟩⟩
  simp only [pairCells, List.map_cons, List.map_nil, List.flatten_cons, List.flatten_nil, List.append_nil] at hi
  rw [Nat.zero_add, cell_at h, ← hi]
  simp
theorem RecsO.at_ {w : World} {B : Nat} {v : Value} {rs : List (List UInt8)} (h : RecsO w B v rs) : ∃ A c, v = .slice A rs.length c ∧ rs.length ≤ c ∧ c ≤ maxLen ∧ ∀ k (hk : k < rs.length), ∃ b o u, A = some ⟨b, o, none⟩ ∧ w.cell? ⟨b, o + k, none⟩ = some u ∧ BytesV w w.heap.size u rs[k] := by
  obtain ⟨vs, R, h1, h2, h3, h4⟩ := h
  have hlen : vs.length = rs.length := by have := h1.1; omega
  have ha := own_arg h1
  obtain ⟨A, c, rfl, hc1, hc2, _⟩ := id ha
  rw [hlen] at hc1 ha ⊢
  refine ⟨A, c, rfl, hc1, hc2, fun k hk => ?_⟩
  have hk' : k < vs.length := by omega
  obtain ⟨b, o, rfl, _, hc⟩ := ha.get (List.getElem?_eq_getElem hk')
  exact ⟨b, o, _, rfl, hc, (h2 k _ _ (List.getElem?_eq_getElem hk') (List.getElem?_eq_getElem hk)).bytes⟩
/-- A store whose log holds the pairs ps. -/
structure StoV (n z : Nat) (w : World) (B sb q lb mb : Nat) (S : Nat → Prop) (ps : List PairD) (down : Bool) : Prop where
  st : StV w q lb mb down
  lg : LgZ n z w B sb lb S (ps.map recB)
  tb : TblV w mb ps.length (Tbl.chs (fun _ => none) ps)
  fits : ∀ p ∈ ps, p.fits
  nq : ¬ OL S lb q
  nm : ¬ OL S lb mb
  nqm : q ≠ mb
  lowq : B ≤ q
  lowm : B ≤ mb
/-- The blocks of a store. -/
def SO (S : Nat → Prop) (q lb mb : Nat) : Nat → Prop := fun k => OL S lb k ∨ k = q ∨ k = mb
set_option maxRecDepth 100000 in
set_option maxHeartbeats 1000000 in
theorem openS_any {n z B sb : Nat} {S : Nat → Prop} {ps : List PairD} {W : World} (h : DkZ n z W B sb S (ps.map recB)) (hf : ∀ p ∈ ps, p.fits) (hl : ps.length ≤ 4294967295) (hB : 1 + 1 ≤ B) (hBz : B ≤ W.heap.size) (hT : Tab W) :
    Calls Tryz.prog 12 #[.pointer (some ⟨sb, 0, none⟩)] W fun e w' => ∃ q lb mb S', e = .returned (.tuple #[.pointer (some ⟨q, 0, none⟩), .int .i64 0]) ∧ StoV n z w' B sb q lb mb S' ps false ∧ W.heap.size ≤ q ∧ W.heap.size ≤ lb ∧ W.heap.size ≤ mb ∧ Mv W S w' S' := by
  have hsb := fun k hk => h.old (k := k) hk
  have hO := open_dkz h hB hBz hT
  replace hO := hide hO
  replace hf := hide hf
  replace hsb := hide hsb
  clear h hT
  have hmm := @run_makeMap Tryz.prog
  go_enter Tryz.func12, Tryz.ntmps12
  go_wp2_with fail
  refine hO.out.mono ?_
  rintro e w1 ⟨lb, v, S1, rfl, g1, g2, g3, g4, g5⟩
  have z1 := g5.1.size
  obtain ⟨A, c, rfl, hc1, hc2, -⟩ := id g2.at_
  rw [List.length_map] at hc1 ⊢
  have hnm1 : ¬ OL S1 lb w1.heap.size := fun hk => by have := g1.old hk; omega
  have hn1 : ∀ k, S1 k → k < w1.heap.size := fun k hk => g1.old (.inl hk)
  have hlb1 : lb < w1.heap.size := g1.old (.inr rfl)
  have hcm : c ≤ 9223372036854775807 := by unfold maxLen at hc2; exact hc2
  have hw0 : TblV (w1.alloc (.map #[] 0)) w1.heap.size 0 (fun _ => none) := TblV.made w1
  have hUm : Upd (fun _ => False) w1 (w1.alloc (.map #[] 0)) := .alloc _ _ _
  have zm : (w1.alloc (.map #[] 0)).heap.size = w1.heap.size + 1 := World.size_alloc _ _
  obtain ⟨A', c', e', -, -, g6⟩ := id g2.at_
  rw [List.length_map] at e'
  obtain ⟨rfl, -, rfl⟩ : A = A' ∧ True ∧ c = c' := by injection e' with a1 a2 a3; exact ⟨a1, trivial, a3⟩
  replace g6 := hide g6
  replace g1 := hide g1
  replace g2 := hide g2
  replace g3 := hide g3
  replace g5 := hide g5
  replace hw0 := hide hw0
  replace hUm := hide hUm
  replace hnm1 := hide hnm1
  replace hn1 := hide hn1
  clear e' hc2 hO
  go_wp2_with fail
  obtain ⟨wm, hwm⟩ : ∃ wm, wm = w1.alloc (.map #[] 0) := ⟨_, rfl⟩
  rw [← hwm] at hw0 hUm zm ⊢
  obtain ⟨mb, hmb⟩ : ∃ mb, mb = w1.heap.size := ⟨_, rfl⟩
  rw [← hmb] at hw0 zm hnm1 hn1 ⊢
  have zmb : mb < wm.heap.size := by omega
  have hU0 : Upd (fun q => q = mb) w1 wm := hUm.out.mono fun _ _ h => h.elim
  replace zm := hide zm
  replace hmb := hide hmb
  replace hU0 := hide hU0
  clear hwm hUm
  go_loopw [24] (fun i wr => ∃ k : Nat, k ≤ ps.length ∧ i = .int .i64 k ∧ TblV wr mb k (Tbl.chs (fun _ => none) (ps.take k)) ∧ Upd (fun q => q = mb) w1 wr) (fun i _ => ps.length - (intOf i).toNat)
  case atStart => exact ⟨0, Nat.zero_le _, rfl, by simpa [Tbl.chs] using hw0.out, hU0.out⟩
  case round =>
    obtain ⟨k, hk, rfl, hb, hU⟩ := hrel
    have zr := hU.size
    rcases Nat.lt_or_ge k ps.length with hlt | hge
    · obtain ⟨b, o, u, rfl, c0, c1⟩ := g6.out k (by rw [List.length_map]; exact hlt)
      have hbl : b < mb := by rw [hmb.out]; exact block_lt_of_cell c0
      have c0' := hU.cell c0 (by omega)
      have c1' := hU.bytes c1 (fun q hq e => by rw [e, hmb.out] at hq; omega)
      rw [List.getElem_map] at c1'
      have hfit := hf.out _ (List.getElem_mem hlt)
      have hsn : Tbl.chs (fun _ => none) (ps.take (k + 1)) = (Tbl.chs (fun _ => none) (ps.take k)).ch ps[k] := by rw [List.take_succ_eq_append_getElem hlt, Tbl.chs_snoc]
      generalize ps[k] = p at *
      obtain ⟨A2, n2, c2, rfl⟩ := c1'.slice'
      have hcall := pairOf_any hfit c1'
      rw [← Tbl.ch_kept] at hsn
      have hok1 : p.key.size ≤ 4294967296 ∧ p.kept.val.size ≤ 4294967296 := by
        obtain ⟨pk, pv, pg⟩ := p
        obtain ⟨⟨x1, x2⟩, -⟩ := hfit
        refine ⟨x1, ?_⟩
        cases pg with
        | true => exact Nat.zero_le _
        | false => exact x2
      generalize p.kept.val = pv at *
      obtain ⟨pk, pv0, pg⟩ := p
      simp only at hok1 hsn hcall
      have hmw := hb.lt
      replace hb := hide hb
      replace hU := hide hU
      replace hsn := hide hsn
      replace hfit := hide hfit
      replace hok1 := hide hok1
      replace hcall := hide hcall
      clear c1 c0 c1'
      go_wp2_with fail
      refine hcall.out.mono ?_
      rintro e w2 ⟨rfl, hb2⟩
      have z2 := hb2.size
      have hU2 := Upd.of_below (fun _ => False) hb2
      have hb2' := hb.out.upd hU2 id
      replace hU2 := hide hU2
      replace hb2' := hide hb2'
      clear hb2 hcall
      go_wp2_with fail
      obtain ⟨w4, hw4⟩ : ∃ w4, w4 = (w2.alloc (.cells #[.string pk, .string pv, .bool pg] 66)).alloc (.cells #[.string pk, .string pv, .bool pg] 66) := ⟨_, rfl⟩
      have hU4 : Upd (fun _ => False) w2 w4 := by rw [hw4]; exact (Upd.alloc _ _ _).then (Upd.alloc _ _ _)
      have ha4 : w4.heap[w2.heap.size + 1]? = some (.cells #[.string pk, .string pv, .bool pg] 66) := by rw [hw4, show w2.heap.size + 1 = (w2.alloc (.cells #[.string pk, .string pv, .bool pg] 66)).heap.size by rw [World.size_alloc]]; exact heap_new _ _
      rw [← hw4]
      have hb4 := hb2'.out.upd hU4 id
      have hPs : PrsV w4 (fun q => q = w2.heap.size + 1) (.slice (some ⟨w2.heap.size + 1, 0, none⟩) 1 1) [⟨pk, pv, pg⟩] := PrsV.one ha4 rfl
      have hch := change_any hb4 hPs (fun q hq => by omega) (by intro p hp; rw [List.mem_singleton] at hp; subst hp; exact hok1.out) (by show k + 1 ≤ 4294967295; omega)
      refine hch.mono ?_
      rintro e w5 ⟨rfl, hb5, hU5⟩
      have hb5' : TblV w5 mb (k + 1) (Tbl.chs (fun _ => none) (ps.take (k + 1))) := by rw [hsn.out]; exact hb5
      have hU6 : Upd (fun q => q = mb) w1 w5 := ((hU.out.trans (hU2.out.trans hU4 fun _ _ h => h) fun _ _ h => h.elim)).trans hU5 fun q _ h => h
      replace hb5' := hide hb5'
      replace hU6 := hide hU6
      clear hb5 hU5 hch hPs hb4 hU4 hw4 ha4 hb2' hU2
      go_wp2_with fail
      go_roundw
      case rel => exact ⟨k + 1, hlt, by go_num, hb5'.out, hU6.out⟩
      case measure => simp [intOf]; omega
    · obtain rfl : k = ps.length := by omega
      rw [List.take_length] at hb
      have hmw := hb.lt
      replace hb := hide hb
      replace hU := hide hU
      go_wp2_with fail
      refine bodyPost_ret (v := .tuple #[.pointer (some ⟨wr.heap.size, 0, none⟩), .int .i64 0]) (by simp [results, Tryz.results12, go_sem]) rfl ?_
      have hUa := hU.out.then (.alloc _ wr (.cells #[.pointer (some ⟨lb, 0, none⟩), .bool false, .map (some mb)] 46))
      have hmbe := hmb.out
      refine ⟨wr.heap.size, lb, mb, S1, rfl, ⟨heap_new _ _, g1.out.upd hUa (fun q hq e => hnm1.out (e ▸ hq)), hb.out.upd (Upd.alloc (fun _ => False) _ _) id, hf.out, fun hk => ?_, hnm1.out, by omega, by omega, by omega⟩, by omega, g4, by omega, g5.out.1.trans hUa (fun q hq e => by omega), g5.out.2⟩
      have := g1.out.old hk
      omega
end Go.Proofs.YtpnboihbifhigaaGreatDoor
