/- The walk of LexBlanks. -/
import Derived.Test.YtibbaofmdechcaaDoorLxBl
import Derived.Test.YtibbaofmdechcaaDoorLxSignsW
namespace Go.Proofs.YtibbaofmdechcaaDoor
open Go Go.RowKit

def wordsC : Array Value := #[.string ⟨#[97]⟩, .string ⟨#[98, 49]⟩, .string ⟨#[95]⟩, .string ⟨#[48]⟩, .string ⟨#[49, 55]⟩, .string ⟨#[61]⟩, .string ⟨#[61, 61]⟩, .string ⟨#[33, 61]⟩, .string ⟨#[33]⟩, .string ⟨#[60]⟩, .string ⟨#[60, 61]⟩, .string ⟨#[38]⟩, .string ⟨#[38, 38]⟩, .string ⟨#[124, 124]⟩, .string ⟨#[40]⟩, .string ⟨#[93]⟩, .string ⟨#[44]⟩, .string ⟨#[59]⟩, .string ⟨#[102, 110]⟩, .string ⟨#[42]⟩, .string ⟨#[37]⟩]
theorem wordsC_at (c : UInt8) : wordsC[c.toNat % 21]? = some (.string (strB (itemW c))) := by
  have e : wordsC = (wordsL.map fun x => Value.string (strB x)).toArray := rfl
  rw [e, List.getElem?_toArray, List.getElem?_map, itemW_at]; rfl

def blanksC : Array Value := #[.string ⟨#[32]⟩, .string ⟨#[10]⟩, .string ⟨#[9, 13, 32]⟩, .string ⟨#[32, 35, 32, 120, 32, 61, 32, 49, 10]⟩, .string ⟨#[32, 32]⟩]
theorem blanksC_at (c : UInt8) : blanksC[c.toNat % 5]? = some (.string (strB (itemB c))) := by
  have e : blanksC = (blanksL.map fun x => Value.string (strB x)).toArray := rfl
  rw [e, List.getElem?_toArray, List.getElem?_map, itemB_at]; rfl
/-- A new row of the five blanks. -/
def FiveF (v : Value) (w : World) : Prop := ∃ g, v = .slice (some ⟨g, 0, none⟩) 5 5 ∧ ∀ k, k < 5 → w.cell? ⟨g, k, none⟩ = blanksC[k]?
theorem FiveF.kept : FKept (fun _ => False) FiveF := fun _ _ _ ⟨g, h1, h2⟩ hu => ⟨g, h1, fun k hk => by
  have h3 := h2 k hk
  have h4 : k < blanksC.size := hk
  rw [Array.getElem?_eq_getElem h4] at h3 ⊢
  exact hu.cell h3 id⟩
theorem FiveF.new (w : World) : FiveF (.slice (some ⟨w.heap.size, 0, none⟩) 5 5) (w.alloc (.cells blanksC 9)) := ⟨_, rfl, fun k _ => cell_at (heap_new w _) k⟩
def PtF (c : UInt8) (v : Value) (w : World) : Prop := ∃ g, v = .pointer (some ⟨g, c.toNat % 5, none⟩) ∧ w.cell? ⟨g, c.toNat % 5, none⟩ = some (.string (strB (itemB c)))
theorem PtF.kept {c : UInt8} : FKept (fun _ => False) (PtF c) := fun _ _ _ ⟨g, h1, h2⟩ hu => ⟨g, h1, hu.cell h2 id⟩
theorem PtF.of {c : UInt8} {g : Nat} {w : World} (h : w.cell? ⟨g, c.toNat % 5, none⟩ = some (.string (strB (itemB c)))) : PtF c (.pointer (some ⟨g, c.toNat % 5, none⟩)) w := ⟨g, rfl, h⟩

set_option maxRecDepth 100000 in
set_option maxHeartbeats 3200000 in
theorem lexBlanks_any (v v2 : Value) (l b : List UInt8) (W : World) (hv : BytesV W W.heap.size v l) (hv2 : BytesV W W.heap.size v2 b) (hE : ErrR W) : Calls Tryd.prog 4 #[v, v2] W fun e w' => e = .returned (.bool true) ∧ Below W.heap.size W w' := by
  have hK := hide (known_any W hE)
  obtain ⟨A, n0, c0, rfl⟩ := hv.slice'
  obtain ⟨A2, n2, c2, rfl⟩ := hv2.slice'
  obtain rfl : n0 = l.length := by
    obtain ⟨A', c', e1, -⟩ := hv
    injection e1
  obtain rfl : n2 = b.length := by
    obtain ⟨A', c', e1, -⟩ := hv2
    injection e1
  replace hv := hide hv
  replace hv2 := hide hv2
  replace hE := hide hE
  go_enter Tryd.func4, Tryd.ntmps4
  go_wp2_with fail
  refine hK.out.mono ?_
  rintro e w1 ⟨rfl, hb⟩
  replace hb := hide hb
  by_cases h4 : 60 < l.length
  · have h4' : (60 : Int) < (l.length : Int) := by omega
    go_wp2_with fail
    go_ret
    exact ⟨rfl, hb.out⟩
  · have h4' : ¬ (60 : Int) < (l.length : Int) := by omega
    by_cases h5 : b.length < l.length
    · have h5' : (b.length : Int) < (l.length : Int) := by omega
      go_wp2_with fail
      go_ret
      exact ⟨rfl, hb.out⟩
    · have h5' : ¬ (b.length : Int) < (l.length : Int) := by omega
      obtain ⟨P, hP⟩ : ∃ P, P = itemsOf l b := ⟨_, rfl⟩
      have hPl : P.length = l.length := by rw [hP]; exact itemsOf_len (by omega)
      have hPf : ∀ p ∈ P, Itm.fine p := by rw [hP]; exact itemsOf_fine l b
      have hcl := catT_le P hPf
      replace hP := hide hP
      replace hPf := hide hPf
      go_wp2_with fail
      obtain ⟨wb, hwb⟩ : ∃ wb, wb = w1.heap.size := ⟨_, rfl⟩
      rw [← hwb]
      have hn0 := hide (hwb ▸ heap_new w1 (.cells wordsC 9) : (w1.alloc (.cells wordsC 9)).heap[wb]? = some (.cells wordsC 9))
      have hb0 := hide (hb.out.alloc hb.out.size (.cells wordsC 9))
      replace hwb := hide hwb
      go_loopw [6, 7] (fun s z wr => ∃ i : Nat, i ≤ l.length ∧ z = .int .i64 i ∧ s = .string (strB (catT (P.take i))) ∧ Below W.heap.size W wr ∧ wr.heap[wb]? = some (.cells wordsC 9)) (fun _ z _ => l.length - (intOf z).toNat)
      case atStart => exact ⟨0, Nat.zero_le _, rfl, rfl, hb0.out, hn0.out⟩
      case round =>
        obtain ⟨i, hi, rfl, rfl, hbr, hwr⟩ := hrel
        by_cases hlt : i < l.length
        · have hlt' : (i : Int) < (l.length : Int) := by omega
          have hlb : i < b.length := by omega
          have hlb' : (i : Int) < (b.length : Int) := by omega
          obtain ⟨bl, ol, rfl, hcl⟩ := (hv.out.below hbr).at_ hlt
          obtain ⟨bb, ob, rfl, hcb⟩ := (hv2.out.below hbr).at_ hlb
          have hcw := cell_at hwr (l[i].toNat % 21)
          rw [wordsC_at] at hcw
          have hD := catT_snoc (ps := P) (k := i) (by omega)
          have hiP : i < P.length := by omega
          have hpi : P[i] = (itemW l[i], itemB b[i]) := by
            have := items_get hlt hlb
            rw [← hP.out, List.getElem?_eq_getElem hiP] at this
            exact Option.some.inj this
          rw [hpi] at hD
          have hwl := (word_facts _ (itemW_mem l[i])).2
          have hbl := (blank_facts _ (itemB_mem b[i])).2
          have hcll : (catT (P.take i)).length ≤ 660 := by
            have := catT_le (P.take i) fun p hp => hPf.out p (List.mem_of_mem_take hp)
            rw [List.length_take] at this
            omega
          generalize l[i] = cl at *
          generalize b[i] = cb at *
          obtain ⟨D, hDD⟩ : ∃ D, D = catT (P.take i) := ⟨_, rfl⟩
          rw [← hDD] at hD hcll ⊢
          obtain ⟨D1, hD1⟩ : ∃ D1, D1 = D ++ itemW cl := ⟨_, rfl⟩
          obtain ⟨D2, hD2⟩ : ∃ D2, D2 = catT (P.take (i + 1)) := ⟨_, rfl⟩
          rw [← hD2] at hD
          have hadd1 := hide (fun w => by rw [hD1]; exact str_add D (itemW cl) (by omega) w : ∀ w, (Op.stringOp .add (strB D) (strB (itemW cl))).run Tryd.prog w = .ok (.string (strB D1)) w)
          have hadd2 := hide (fun w => by rw [hD, ← List.append_assoc, ← hD1]; exact str_add D1 (itemB cb) (by rw [hD1, List.length_append]; omega) w : ∀ w, (Op.stringOp .add (strB D1) (strB (itemB cb))).run Tryd.prog w = .ok (.string (strB D2)) w)
          replace hcl := hide hcl
          replace hcb := hide hcb
          replace hcw := hide hcw
          replace hbr := hide hbr
          replace hwr := hide hwr
          replace hD2 := hide hD2
          have hw6 := hide (show IntKind.i64.wrap (cl.toNat : Int) = (cl.toNat : Int) by have := cl.toNat_lt; simp [IntKind.wrap, IntKind.bits, IntKind.signed]; omega)
          have q21 := hide (show ((cl.toNat : Int) % 21).toNat = cl.toNat % 21 by omega)
          have q21a := hide (show 0 ≤ (cl.toNat : Int) % 21 by omega)
          have q21b := hide (show (cl.toNat : Int) % 21 < 21 by omega)
          have q5 := hide (show ((cb.toNat : Int) % 5).toNat = cb.toNat % 5 by omega)
          have q5a := hide (show 0 ≤ (cb.toNat : Int) % 5 by omega)
          have q5b := hide (show (cb.toNat : Int) % 5 < 5 by omega)
          have hc8 : (cl.toNat : Int) ≤ 255 := by have := cl.toNat_lt; omega
          have hb8 : (cb.toNat : Int) ≤ 255 := by have := cb.toNat_lt; omega
          clear hD hDD hD1 hpi
          go_wp2_with fail
          refine wp_region_flow (fun _ => False) (factAt [(fun v _ => v = (.string (strB D))), (fun v _ => v = (.slice (some ⟨wb, 0, none⟩) 21 21)), (fun v _ => v = (.slice (some ⟨bl, ol, none⟩) l.length c0)), (fun v _ => v = (.int .i64 i)), (fun v _ => v = (.pointer (some ⟨bl, ol + i, none⟩))), (fun v _ => v = (.int .u8 cl.toNat)), (fun v _ => v = (.int .i64 cl.toNat)), (fun v _ => v = (.slice (some ⟨wb, 0, none⟩) 21 21)), (fun v _ => v = (.int .i64 21)), (fun v _ => v = (.int .i64 ((cl.toNat : Int) % 21))), (fun v _ => v = (.pointer (some ⟨wb, cl.toNat % 21, none⟩))), (fun v _ => v = (.string (strB (itemW cl)))), (fun v _ => v = (.string (strB D1))), (fun v w => FiveF v w), (fun v _ => v = (.slice (some ⟨bb, ob, none⟩) b.length c2)), (fun v _ => v = (.int .i64 i)), (fun v _ => v = (.pointer (some ⟨bb, ob + i, none⟩))), (fun v _ => v = (.int .u8 cb.toNat)), (fun v _ => v = (.int .u8 ((cb.toNat : Int) % 5))), (fun v w => PtF cb v w), (fun v _ => v = (.string (strB (itemB cb)))), (fun v _ => v = (.string (strB D2))), (fun v _ => v = (.string (strB D2)))]) [] (fun _ => True) (by kernel_rfl) (fkept_at ⟨FKept.eq _, FKept.eq _, FKept.eq _, FKept.eq _, FKept.eq _, FKept.eq _, FKept.eq _, FKept.eq _, FKept.eq _, FKept.eq _, FKept.eq _, FKept.eq _, FKept.eq _, FiveF.kept, FKept.eq _, FKept.eq _, FKept.eq _, FKept.eq _, FKept.eq _, PtF.kept, FKept.eq _, FKept.eq _, FKept.eq _, trivial⟩) (fun _ _ h _ => h) trivial (by kernel_rfl) (by kernel_rfl) (by kernel_rfl) (by kernel_rfl) (Nat.le_of_ble_eq_true (by kernel_rfl)) ?_ ⟨?_, ?_, ?_, ?_, ?_, ?_, ?_, ?_, ?_, ?_, ?_, ?_, ?_, ?_, ?_, ?_, ?_, ?_, ?_, ?_, ?_, ?_, ?_, trivial⟩ ?_
          · first | exact trivial | assumption
          · intro T w Q hu hs hv hw hd
            have hx6 : T.getD 6 undef = (.string (strB D)) := hw 6 (by kernel_rfl)
            refine .inl ⟨wanted_none rfl, ?_⟩
            clear hd hv hu hs hw
            go_simp
            exact ⟨_, rfl, DstOk.some rfl, Below.refl _ _, rfl⟩
          · intro T w Q hu hs hv hw hd
            have hx5 : T.getD 5 undef = (.slice (some ⟨wb, 0, none⟩) 21 21) := hv 5 (by kernel_rfl)
            refine .inl ⟨wanted_none rfl, ?_⟩
            clear hd hv hu hs hw
            go_simp
            exact ⟨_, rfl, DstOk.some rfl, Below.refl _ _, rfl⟩
          · intro T w Q hu hs hv hw hd
            have hx0 : T.getD 0 undef = (.slice (some ⟨bl, ol, none⟩) l.length c0) := hv 0 (by kernel_rfl)
            refine .inl ⟨wanted_none rfl, ?_⟩
            clear hd hv hu hs hw
            go_simp
            exact ⟨_, rfl, DstOk.some rfl, Below.refl _ _, rfl⟩
          · intro T w Q hu hs hv hw hd
            have hx7 : T.getD 7 undef = (.int .i64 i) := hv 7 (by kernel_rfl)
            refine .inl ⟨wanted_none rfl, ?_⟩
            clear hd hv hu hs hw
            go_simp
            exact ⟨_, rfl, DstOk.some rfl, Below.refl _ _, rfl⟩
          · intro T w Q hu hs hv hw hd
            have hx36 : T.getD 36 undef = (.slice (some ⟨bl, ol, none⟩) l.length c0) := Deps.at 2 hd (by kernel_rfl)
            have hx37 : T.getD 37 undef = (.int .i64 i) := Deps.at 3 hd (by kernel_rfl)
            refine .inl ⟨wanted_none rfl, ?_⟩
            clear hd hv hu hs hw
            go_simp
            exact ⟨_, rfl, DstOk.some rfl, Below.refl _ _, rfl⟩
          · intro T w Q hu hs hv hw hd
            have hx38 : T.getD 38 undef = (.pointer (some ⟨bl, ol + i, none⟩)) := Deps.at 4 hd (by kernel_rfl)
            refine .inl ⟨wanted_none rfl, ?_⟩
            have hq := hu.cell hcl.out id
            clear hd hv hu hs hw
            go_simp
            exact ⟨_, rfl, DstOk.some rfl, Below.refl _ _, rfl⟩
          · intro T w Q hu hs hv hw hd
            have hx39 : T.getD 39 undef = (.int .u8 cl.toNat) := Deps.at 5 hd (by kernel_rfl)
            refine .inl ⟨wanted_none rfl, ?_⟩
            clear hd hv hu hs hw
            go_simp
            exact ⟨_, rfl, DstOk.some rfl, Below.refl _ _, congrArg (Value.int .i64) hw6.out⟩
          · intro T w Q hu hs hv hw hd
            have hx5 : T.getD 5 undef = (.slice (some ⟨wb, 0, none⟩) 21 21) := hv 5 (by kernel_rfl)
            refine .inl ⟨wanted_none rfl, ?_⟩
            clear hd hv hu hs hw
            go_simp
            exact ⟨_, rfl, DstOk.some rfl, Below.refl _ _, rfl⟩
          · intro T w Q hu hs hv hw hd
            have hx41 : T.getD 41 undef = (.slice (some ⟨wb, 0, none⟩) 21 21) := Deps.at 7 hd (by kernel_rfl)
            refine .inl ⟨wanted_none rfl, ?_⟩
            clear hd hv hu hs hw
            go_simp
            exact ⟨_, rfl, DstOk.some rfl, Below.refl _ _, rfl⟩
          · intro T w Q hu hs hv hw hd
            have hx40 : T.getD 40 undef = (.int .i64 cl.toNat) := Deps.at 6 hd (by kernel_rfl)
            have hx42 : T.getD 42 undef = (.int .i64 21) := Deps.at 8 hd (by kernel_rfl)
            refine .inl ⟨wanted_none rfl, ?_⟩
            clear hd hv hu hs hw
            go_simp
            exact ⟨_, rfl, DstOk.some rfl, Below.refl _ _, rfl⟩
          · intro T w Q hu hs hv hw hd
            have hx35 : T.getD 35 undef = (.slice (some ⟨wb, 0, none⟩) 21 21) := Deps.at 1 hd (by kernel_rfl)
            have hx43 : T.getD 43 undef = (.int .i64 ((cl.toNat : Int) % 21)) := Deps.at 9 hd (by kernel_rfl)
            refine .inl ⟨wanted_none rfl, ?_⟩
            have a0 := q21.out
            have a1 := q21a.out
            have a2 := q21b.out
            clear hd hv hu hs hw
            go_simp
            exact ⟨_, rfl, DstOk.some rfl, Below.refl _ _, rfl⟩
          · intro T w Q hu hs hv hw hd
            have hx44 : T.getD 44 undef = (.pointer (some ⟨wb, cl.toNat % 21, none⟩)) := Deps.at 10 hd (by kernel_rfl)
            refine .inl ⟨wanted_none rfl, ?_⟩
            have hq := hu.cell hcw.out id
            clear hd hv hu hs hw
            go_simp
            exact ⟨_, rfl, DstOk.some rfl, Below.refl _ _, rfl⟩
          · intro T w Q hu hs hv hw hd
            have hx34 : T.getD 34 undef = (.string (strB D)) := Deps.at 0 hd (by kernel_rfl)
            have hx45 : T.getD 45 undef = (.string (strB (itemW cl))) := Deps.at 11 hd (by kernel_rfl)
            refine .inl ⟨wanted_none rfl, ?_⟩
            have hC := hadd1.out w
            clear hd hv hu hs hw
            go_simp
            exact ⟨_, rfl, DstOk.some rfl, Below.refl _ _, rfl⟩
          · intro T w Q hu hs hv hw hd
            refine .inl ⟨wanted_none rfl, ?_⟩
            clear hd hv hu hs hw
            go_simp
            exact ⟨_, rfl, DstOk.some rfl, (Below.refl _ w).alloc (Nat.le_refl _) _, FiveF.new w⟩
          · intro T w Q hu hs hv hw hd
            have hx1 : T.getD 1 undef = (.slice (some ⟨bb, ob, none⟩) b.length c2) := hv 1 (by kernel_rfl)
            refine .inl ⟨wanted_none rfl, ?_⟩
            clear hd hv hu hs hw
            go_simp
            exact ⟨_, rfl, DstOk.some rfl, Below.refl _ _, rfl⟩
          · intro T w Q hu hs hv hw hd
            have hx7 : T.getD 7 undef = (.int .i64 i) := hv 7 (by kernel_rfl)
            refine .inl ⟨wanted_none rfl, ?_⟩
            clear hd hv hu hs hw
            go_simp
            exact ⟨_, rfl, DstOk.some rfl, Below.refl _ _, rfl⟩
          · intro T w Q hu hs hv hw hd
            have hx48 : T.getD 48 undef = (.slice (some ⟨bb, ob, none⟩) b.length c2) := Deps.at 14 hd (by kernel_rfl)
            have hx49 : T.getD 49 undef = (.int .i64 i) := Deps.at 15 hd (by kernel_rfl)
            refine .inl ⟨wanted_none rfl, ?_⟩
            clear hd hv hu hs hw
            go_simp
            exact ⟨_, rfl, DstOk.some rfl, Below.refl _ _, rfl⟩
          · intro T w Q hu hs hv hw hd
            have hx50 : T.getD 50 undef = (.pointer (some ⟨bb, ob + i, none⟩)) := Deps.at 16 hd (by kernel_rfl)
            refine .inl ⟨wanted_none rfl, ?_⟩
            have hq := hu.cell hcb.out id
            clear hd hv hu hs hw
            go_simp
            exact ⟨_, rfl, DstOk.some rfl, Below.refl _ _, rfl⟩
          · intro T w Q hu hs hv hw hd
            have hx51 : T.getD 51 undef = (.int .u8 cb.toNat) := Deps.at 17 hd (by kernel_rfl)
            refine .inl ⟨wanted_none rfl, ?_⟩
            clear hd hv hu hs hw
            go_simp
            exact ⟨_, rfl, DstOk.some rfl, Below.refl _ _, rfl⟩
          · intro T w Q hu hs hv hw hd
            have f47 : (fun (v : Value) (w : World) => FiveF v w) (T.getD 47 undef) w := Deps.at 13 hd (by kernel_rfl)
            generalize hx47 : T.getD 47 undef = x47 at f47
            replace f47 := hide f47
            have hx52 : T.getD 52 undef = (.int .u8 ((cb.toNat : Int) % 5)) := Deps.at 18 hd (by kernel_rfl)
            refine .inl ⟨wanted_none rfl, ?_⟩
            obtain ⟨g, rfl, hg⟩ := f47.out
            have hp := hg _ (Nat.mod_lt cb.toNat (by decide : 5 > 0))
            rw [blanksC_at] at hp
            replace hp := hide hp
            replace hg := hide hg
            have a0 := q5.out
            have a1 := q5a.out
            have a2 := q5b.out
            clear hd hv hu hs hw f47
            go_simp
            exact ⟨_, rfl, DstOk.some rfl, Below.refl _ _, PtF.of hp.out⟩
          · intro T w Q hu hs hv hw hd
            have f53 : (fun (v : Value) (w : World) => PtF cb v w) (T.getD 53 undef) w := Deps.at 19 hd (by kernel_rfl)
            generalize hx53 : T.getD 53 undef = x53 at f53
            replace f53 := hide f53
            refine .inl ⟨wanted_none rfl, ?_⟩
            obtain ⟨g, rfl, hp⟩ := f53.out
            clear hd hv hu hs hw f53
            go_simp
            exact ⟨_, rfl, DstOk.some rfl, Below.refl _ _, rfl⟩
          · intro T w Q hu hs hv hw hd
            have hx46 : T.getD 46 undef = (.string (strB D1)) := Deps.at 12 hd (by kernel_rfl)
            have hx54 : T.getD 54 undef = (.string (strB (itemB cb))) := Deps.at 20 hd (by kernel_rfl)
            refine .inl ⟨wanted_none rfl, ?_⟩
            have hC := hadd2.out w
            clear hd hv hu hs hw
            go_simp
            exact ⟨_, rfl, DstOk.some rfl, Below.refl _ _, rfl⟩
          · intro T w Q hu hs hv hw hd
            have hx55 : T.getD 55 undef = (.string (strB D2)) := Deps.at 21 hd (by kernel_rfl)
            refine .inl ⟨wanted_none rfl, ?_⟩
            clear hd hv hu hs hw
            go_simp
            exact ⟨_, rfl, DstOk.some rfl, Below.refl _ _, rfl⟩
          intro T w hu hs hv hf hcur
          have hT : T = #[T.getD 0 undef, T.getD 1 undef, T.getD 2 undef, T.getD 3 undef, T.getD 4 undef, T.getD 5 undef, T.getD 6 undef, T.getD 7 undef, T.getD 8 undef, T.getD 9 undef, T.getD 10 undef, T.getD 11 undef, T.getD 12 undef, T.getD 13 undef, T.getD 14 undef, T.getD 15 undef, T.getD 16 undef, T.getD 17 undef, T.getD 18 undef, T.getD 19 undef, T.getD 20 undef, T.getD 21 undef, T.getD 22 undef, T.getD 23 undef, T.getD 24 undef, T.getD 25 undef, T.getD 26 undef, T.getD 27 undef, T.getD 28 undef, T.getD 29 undef, T.getD 30 undef, T.getD 31 undef, T.getD 32 undef, T.getD 33 undef, T.getD 34 undef, T.getD 35 undef, T.getD 36 undef, T.getD 37 undef, T.getD 38 undef, T.getD 39 undef, T.getD 40 undef, T.getD 41 undef, T.getD 42 undef, T.getD 43 undef, T.getD 44 undef, T.getD 45 undef, T.getD 46 undef, T.getD 47 undef, T.getD 48 undef, T.getD 49 undef, T.getD 50 undef, T.getD 51 undef, T.getD 52 undef, T.getD 53 undef, T.getD 54 undef, T.getD 55 undef, T.getD 56 undef, T.getD 57 undef, T.getD 58 undef, T.getD 59 undef, T.getD 60 undef, T.getD 61 undef, T.getD 62 undef, T.getD 63 undef, T.getD 64 undef, T.getD 65 undef, T.getD 66 undef, T.getD 67 undef, T.getD 68 undef, T.getD 69 undef, T.getD 70 undef, T.getD 71 undef, T.getD 72 undef, T.getD 73 undef, T.getD 74 undef, T.getD 75 undef, T.getD 76 undef, T.getD 77 undef, T.getD 78 undef, T.getD 79 undef, T.getD 80 undef, T.getD 81 undef, T.getD 82 undef, T.getD 83 undef, T.getD 84 undef, T.getD 85 undef, T.getD 86 undef, T.getD 87 undef, T.getD 88 undef, T.getD 89 undef, T.getD 90 undef, T.getD 91 undef, T.getD 92 undef, T.getD 93 undef, T.getD 94 undef, T.getD 95 undef, T.getD 96 undef, T.getD 97 undef, T.getD 98 undef, T.getD 99 undef, T.getD 100 undef, T.getD 101 undef, T.getD 102 undef, T.getD 103 undef, T.getD 104 undef, T.getD 105 undef, T.getD 106 undef, T.getD 107 undef, T.getD 108 undef, T.getD 109 undef, T.getD 110 undef, T.getD 111 undef, T.getD 112 undef, T.getD 113 undef, T.getD 114 undef, T.getD 115 undef, T.getD 116 undef, T.getD 117 undef, T.getD 118 undef, T.getD 119 undef, T.getD 120 undef, T.getD 121 undef, T.getD 122 undef, T.getD 123 undef, T.getD 124 undef, T.getD 125 undef, T.getD 126 undef, T.getD 127 undef, T.getD 128 undef, T.getD 129 undef, T.getD 130 undef, T.getD 131 undef, T.getD 132 undef, T.getD 133 undef, T.getD 134 undef, T.getD 135 undef, T.getD 136 undef, T.getD 137 undef, T.getD 138 undef, T.getD 139 undef, T.getD 140 undef, T.getD 141 undef, T.getD 142 undef, T.getD 143 undef, T.getD 144 undef, T.getD 145 undef, T.getD 146 undef, T.getD 147 undef, T.getD 148 undef, T.getD 149 undef, T.getD 150 undef, T.getD 151 undef, T.getD 152 undef, T.getD 153 undef, T.getD 154 undef, T.getD 155 undef, T.getD 156 undef, T.getD 157 undef, T.getD 158 undef, T.getD 159 undef, T.getD 160 undef, T.getD 161 undef, T.getD 162 undef, T.getD 163 undef, T.getD 164 undef, T.getD 165 undef, T.getD 166 undef, T.getD 167 undef, T.getD 168 undef, T.getD 169 undef] := expl hs
          rw [hT]
          clear hT
          rw [show T.getD 0 undef = (.slice (some ⟨bl, ol, none⟩) l.length c0) from hv 0 (by kernel_rfl)]
          rw [show T.getD 1 undef = (.slice (some ⟨bb, ob, none⟩) b.length c2) from hv 1 (by kernel_rfl)]
          rw [hv 2 (by kernel_rfl)]
          rw [hv 3 (by kernel_rfl)]
          rw [hv 4 (by kernel_rfl)]
          rw [show T.getD 5 undef = (.slice (some ⟨wb, 0, none⟩) 21 21) from hv 5 (by kernel_rfl)]
          rw [show T.getD 6 undef = (.string (strB D2)) from hf 22 (by decide)]
          rw [show T.getD 7 undef = (.int .i64 i) from hv 7 (by kernel_rfl)]
          rw [hv 8 (by kernel_rfl)]
          rw [hv 9 (by kernel_rfl)]
          rw [hv 10 (by kernel_rfl)]
          rw [hv 11 (by kernel_rfl)]
          rw [hv 12 (by kernel_rfl)]
          rw [hv 13 (by kernel_rfl)]
          rw [hv 14 (by kernel_rfl)]
          rw [hv 15 (by kernel_rfl)]
          rw [hv 16 (by kernel_rfl)]
          rw [hv 17 (by kernel_rfl)]
          rw [hv 18 (by kernel_rfl)]
          rw [hv 19 (by kernel_rfl)]
          rw [hv 20 (by kernel_rfl)]
          rw [hv 21 (by kernel_rfl)]
          rw [hv 22 (by kernel_rfl)]
          rw [hv 23 (by kernel_rfl)]
          rw [hv 24 (by kernel_rfl)]
          rw [hv 25 (by kernel_rfl)]
          rw [hv 26 (by kernel_rfl)]
          rw [hv 27 (by kernel_rfl)]
          rw [hv 28 (by kernel_rfl)]
          rw [hv 29 (by kernel_rfl)]
          rw [hv 30 (by kernel_rfl)]
          rw [hv 31 (by kernel_rfl)]
          rw [hv 32 (by kernel_rfl)]
          rw [hv 33 (by kernel_rfl)]
          rw [show T.getD 34 undef = (.string (strB D)) from hf 0 (by decide)]
          rw [show T.getD 35 undef = (.slice (some ⟨wb, 0, none⟩) 21 21) from hf 1 (by decide)]
          rw [show T.getD 36 undef = (.slice (some ⟨bl, ol, none⟩) l.length c0) from hf 2 (by decide)]
          rw [show T.getD 37 undef = (.int .i64 i) from hf 3 (by decide)]
          rw [show T.getD 38 undef = (.pointer (some ⟨bl, ol + i, none⟩)) from hf 4 (by decide)]
          rw [show T.getD 39 undef = (.int .u8 cl.toNat) from hf 5 (by decide)]
          rw [show T.getD 40 undef = (.int .i64 cl.toNat) from hf 6 (by decide)]
          rw [show T.getD 41 undef = (.slice (some ⟨wb, 0, none⟩) 21 21) from hf 7 (by decide)]
          rw [show T.getD 42 undef = (.int .i64 21) from hf 8 (by decide)]
          rw [show T.getD 43 undef = (.int .i64 ((cl.toNat : Int) % 21)) from hf 9 (by decide)]
          rw [show T.getD 44 undef = (.pointer (some ⟨wb, cl.toNat % 21, none⟩)) from hf 10 (by decide)]
          rw [show T.getD 45 undef = (.string (strB (itemW cl))) from hf 11 (by decide)]
          rw [show T.getD 46 undef = (.string (strB D1)) from hf 12 (by decide)]
          rw [show T.getD 48 undef = (.slice (some ⟨bb, ob, none⟩) b.length c2) from hf 14 (by decide)]
          rw [show T.getD 49 undef = (.int .i64 i) from hf 15 (by decide)]
          rw [show T.getD 50 undef = (.pointer (some ⟨bb, ob + i, none⟩)) from hf 16 (by decide)]
          rw [show T.getD 51 undef = (.int .u8 cb.toNat) from hf 17 (by decide)]
          rw [show T.getD 52 undef = (.int .u8 ((cb.toNat : Int) % 5)) from hf 18 (by decide)]
          rw [show T.getD 54 undef = (.string (strB (itemB cb))) from hf 20 (by decide)]
          rw [show T.getD 55 undef = (.string (strB D2)) from hf 21 (by decide)]
          rw [hv 56 (by kernel_rfl)]
          rw [hv 57 (by kernel_rfl)]
          rw [hv 58 (by kernel_rfl)]
          rw [hv 59 (by kernel_rfl)]
          rw [hv 60 (by kernel_rfl)]
          rw [hv 61 (by kernel_rfl)]
          rw [hv 62 (by kernel_rfl)]
          rw [hv 63 (by kernel_rfl)]
          rw [hv 64 (by kernel_rfl)]
          rw [hv 65 (by kernel_rfl)]
          rw [hv 66 (by kernel_rfl)]
          rw [hv 67 (by kernel_rfl)]
          rw [hv 68 (by kernel_rfl)]
          rw [hv 69 (by kernel_rfl)]
          rw [hv 70 (by kernel_rfl)]
          rw [hv 71 (by kernel_rfl)]
          rw [hv 72 (by kernel_rfl)]
          rw [hv 73 (by kernel_rfl)]
          rw [hv 74 (by kernel_rfl)]
          rw [hv 75 (by kernel_rfl)]
          rw [hv 76 (by kernel_rfl)]
          rw [hv 77 (by kernel_rfl)]
          rw [hv 78 (by kernel_rfl)]
          rw [hv 79 (by kernel_rfl)]
          rw [hv 80 (by kernel_rfl)]
          rw [hv 81 (by kernel_rfl)]
          rw [hv 82 (by kernel_rfl)]
          rw [hv 83 (by kernel_rfl)]
          rw [hv 84 (by kernel_rfl)]
          rw [hv 85 (by kernel_rfl)]
          rw [hv 86 (by kernel_rfl)]
          rw [hv 87 (by kernel_rfl)]
          rw [hv 88 (by kernel_rfl)]
          rw [hv 89 (by kernel_rfl)]
          rw [hv 90 (by kernel_rfl)]
          rw [hv 91 (by kernel_rfl)]
          rw [hv 92 (by kernel_rfl)]
          rw [hv 93 (by kernel_rfl)]
          rw [hv 94 (by kernel_rfl)]
          rw [hv 95 (by kernel_rfl)]
          rw [hv 96 (by kernel_rfl)]
          rw [hv 97 (by kernel_rfl)]
          rw [hv 98 (by kernel_rfl)]
          rw [hv 99 (by kernel_rfl)]
          rw [hv 100 (by kernel_rfl)]
          rw [hv 101 (by kernel_rfl)]
          rw [hv 102 (by kernel_rfl)]
          rw [hv 103 (by kernel_rfl)]
          rw [hv 104 (by kernel_rfl)]
          rw [hv 105 (by kernel_rfl)]
          rw [hv 106 (by kernel_rfl)]
          rw [hv 107 (by kernel_rfl)]
          rw [hv 108 (by kernel_rfl)]
          rw [hv 109 (by kernel_rfl)]
          rw [hv 110 (by kernel_rfl)]
          rw [hv 111 (by kernel_rfl)]
          rw [hv 112 (by kernel_rfl)]
          rw [hv 113 (by kernel_rfl)]
          rw [hv 114 (by kernel_rfl)]
          rw [hv 115 (by kernel_rfl)]
          rw [hv 116 (by kernel_rfl)]
          rw [hv 117 (by kernel_rfl)]
          rw [hv 118 (by kernel_rfl)]
          rw [hv 119 (by kernel_rfl)]
          rw [hv 120 (by kernel_rfl)]
          rw [hv 121 (by kernel_rfl)]
          rw [hv 122 (by kernel_rfl)]
          rw [hv 123 (by kernel_rfl)]
          rw [hv 124 (by kernel_rfl)]
          rw [hv 125 (by kernel_rfl)]
          rw [hv 126 (by kernel_rfl)]
          rw [hv 127 (by kernel_rfl)]
          rw [hv 128 (by kernel_rfl)]
          rw [hv 129 (by kernel_rfl)]
          rw [hv 130 (by kernel_rfl)]
          rw [hv 131 (by kernel_rfl)]
          rw [hv 132 (by kernel_rfl)]
          rw [hv 133 (by kernel_rfl)]
          rw [hv 134 (by kernel_rfl)]
          rw [hv 135 (by kernel_rfl)]
          rw [hv 136 (by kernel_rfl)]
          rw [hv 137 (by kernel_rfl)]
          rw [hv 138 (by kernel_rfl)]
          rw [hv 139 (by kernel_rfl)]
          rw [hv 140 (by kernel_rfl)]
          rw [hv 141 (by kernel_rfl)]
          rw [hv 142 (by kernel_rfl)]
          rw [hv 143 (by kernel_rfl)]
          rw [hv 144 (by kernel_rfl)]
          rw [hv 145 (by kernel_rfl)]
          rw [hv 146 (by kernel_rfl)]
          rw [hv 147 (by kernel_rfl)]
          rw [hv 148 (by kernel_rfl)]
          rw [hv 149 (by kernel_rfl)]
          rw [hv 150 (by kernel_rfl)]
          rw [hv 151 (by kernel_rfl)]
          rw [hv 152 (by kernel_rfl)]
          rw [hv 153 (by kernel_rfl)]
          rw [hv 154 (by kernel_rfl)]
          rw [hv 155 (by kernel_rfl)]
          rw [hv 156 (by kernel_rfl)]
          rw [hv 157 (by kernel_rfl)]
          rw [hv 158 (by kernel_rfl)]
          rw [hv 159 (by kernel_rfl)]
          rw [hv 160 (by kernel_rfl)]
          rw [hv 161 (by kernel_rfl)]
          rw [hv 162 (by kernel_rfl)]
          rw [hv 163 (by kernel_rfl)]
          rw [hv 164 (by kernel_rfl)]
          rw [hv 165 (by kernel_rfl)]
          rw [hv 166 (by kernel_rfl)]
          rw [hv 167 (by kernel_rfl)]
          rw [hv 168 (by kernel_rfl)]
          rw [hv 169 (by kernel_rfl)]
          clear hf hs hv hcur
          simp only [getD_toArray, List.getD_cons_succ, List.getD_cons_zero]
          generalize T.getD 47 undef = y47
          generalize T.getD 53 undef = y53
          clear T
          have hb9 := hide (hbr.out.trans ((hu.below (Nat.le_refl _) fun _ h => h.elim : Below wr.heap.size wr w).mono hbr.out.size))
          have hw9 := hide (hu.heap hwr.out id)
          clear hu
          go_wp2_with fail
          go_roundw
          case rel => exact ⟨i + 1, by omega, by go_num, by rw [hD2.out], hb9.out, hw9.out⟩
          case measure => simp [intOf]; omega
        · obtain rfl : i = l.length := by omega
          have hlt' : ¬ (l.length : Int) < (l.length : Int) := by omega
          have hMt : P.take l.length = P := by rw [← hPl]; exact List.take_length
          rw [hMt]
          clear hMt
          have hR := lex_items hPf.out (by omega)
          obtain ⟨S, hS⟩ : ∃ S, S = catT P := ⟨_, rfl⟩
          rw [← hS] at hR hcl ⊢
          replace hS := hide hS
          have h1 := hide (tokens_any S (by omega) wr (hE.out.below hbr))
          rw [hR] at h1
          replace hbr := hide hbr
          replace hwr := hide hwr
          clear hR
          have htl := toksT_len P 0
          have htg := hide (toksT_at P 0)
          obtain ⟨ts, hts⟩ : ∃ ts, ts = toksT 0 P := ⟨_, rfl⟩
          rw [← hts] at htl htg h1
          clear hts
          rw [hPl] at htl
          go_wp2_with fail
          refine h1.out.mono ?_
          intro e w2 hr
          obtain ⟨A1, c1, rfl, hv1, hb2⟩ := tokF_ok hr
          rw [htl] at hv1 ⊢
          have hb2' := hide (hbr.out.trans (hb2.mono hbr.out.size))
          have hw2 := hide ((Upd.of_below (fun _ => False) hb2).heap hwr.out id)
          replace hv1 := hide hv1
          clear hr hb2 h1
          go_wp2_with fail
          go_loopw [11] (fun z wr' => ∃ k : Nat, k ≤ l.length ∧ z = .int .i64 k ∧ Below w2.heap.size w2 wr') (fun z _ => l.length - (intOf z).toNat)
          case atStart => exact ⟨0, Nat.zero_le _, rfl, Below.refl _ _⟩
          case round =>
            obtain ⟨k, hk, rfl, hbq⟩ := hrel
            have hbW := hide (hb2'.out.trans (hbq.mono hb2'.out.size))
            by_cases hlt2 : k < l.length
            · have hlt2' : (k : Int) < (l.length : Int) := by omega
              obtain ⟨bl, ol, rfl, hcl⟩ := (hv.out.below hbW.out).at_ hlt2
              have hwq := (Upd.of_below (fun _ => False) hbq).heap hw2.out id
              have hcw := cell_at hwq (l[k].toNat % 21)
              rw [wordsC_at] at hcw
              have hkb : k < b.length := by omega
              have hkP : k < P.length := by omega
              have hpi : P[k] = (itemW l[k], itemB b[k]) := by
                have := items_get hlt2 hkb
                rw [← hP.out, List.getElem?_eq_getElem hkP] at this
                exact Option.some.inj this
              have hroom := catT_room (ps := P) (k := k) (by omega)
              have hcut := catT_cut (ps := P) (k := k) (by omega)
              rw [← hS.out] at hroom hcut
              have hvq := hv1.out.below hbq
              obtain ⟨tb, rfl, -, p0, p1, p2⟩ := hvq.get' (htg.out k (by omega))
              rw [hpi] at hroom hcut p0 p1
              dsimp only at hroom hcut p0 p1 p2
              rw [Nat.zero_add] at p2
              have hprev : ∀ m, k = m + 1 → ∃ pm : Nat, wr.cell? ⟨tb, m * 3 + 2, none⟩ = some (.int .i64 pm) ∧ pm < (catT (P.take k)).length := by
                rintro m rfl
                obtain ⟨tb', e, -, -, -, q2⟩ := hvq.get' (htg.out m (by omega))
                injection e with e; injection e with e
                subst e
                dsimp only at q2
                rw [Nat.zero_add] at q2
                refine ⟨(catT (P.take m)).length, q2, ?_⟩
                rw [catT_snoc (ps := P) (k := m) (by omega), List.length_append, List.length_append]
                have := (word_facts _ (hPf.out P[m] (List.getElem_mem (by omega))).1).1
                omega
              have hw := word_facts _ (itemW_mem l[k])
              generalize l[k] = cl at *
              obtain ⟨W1, hW1⟩ : ∃ W1, W1 = itemW cl := ⟨_, rfl⟩
              rw [← hW1] at hcw hroom hcut p0 p1 hw
              generalize (catT (P.take k)).length = pos at *
              have hzW : (strB W1).size = W1.length := rfl
              have hzS : (strB S).size = S.length := rfl
              have hcut2 : ∀ w, (Instr.slice 9 (.string (strB S)) (some (.int .i64 pos)) (some (.int .i64 ((pos : Int) + (W1.length : Int)))) none).run Tryd.prog w = .ok (.string (strB W1)) w := fun w => by
                have := str_cut (l := S) (i := pos) (j := pos + W1.length) (by omega) hroom w
                rw [show pos + W1.length - pos = W1.length by omega, hcut] at this
                exact this
              have hr1 : (pos : Int) + (W1.length : Int) ≤ (S.length : Int) := by omega
              have hr2 : (S.length : Int) ≤ 660 := by omega
              have hr3 : (W1.length : Int) ≤ 2 := by omega
              have hr4 : (0 : Int) ≤ (pos : Int) := by omega
              obtain ⟨h0, hh0, hk0⟩ : ∃ h0, W1[0]? = some h0 ∧ kindW W1 = kindH h0 := by
                cases W1 with
                | nil => simp at hw
                | cons x r => exact ⟨x, rfl, rfl⟩
              have hx0 : ∀ w, (Instr.index 9 (.string (strB W1)) (.int .i64 0)).run Tryd.prog w = .ok (.int .u8 h0.toNat) w := fun w => str_at (i := 0) hh0 w
              have hpos : (0 : Int) < (W1.length : Int) := by omega
              rw [hk0] at p0
              have hc8 : (cl.toNat : Int) ≤ 255 := by have := cl.toNat_lt; omega
              have q21 := (show ((cl.toNat : Int) % 21).toNat = cl.toNat % 21 by omega)
              replace hprev := hide hprev
              replace hW1 := hide hW1
              replace hcut := hide hcut
              replace hbq := hide hbq
              replace hwq := hide hwq
              replace hvq := hide hvq
              replace hk0 := hide hk0
              replace hh0 := hide hh0
              clear hpi
              go_wp2_with fail
              have hlt2' : (k : Int) < (l.length : Int) := by omega
              have hk00 : (0 : Int) ≤ (k : Int) := by omega
              have hk60 : (k : Int) ≤ 60 := by omega
              replace p0 := hide p0
              replace p1 := hide p1
              replace p2 := hide p2
              replace hroom := hide hroom
              replace hw := hide hw
              replace hzW := hide hzW
              replace hzS := hide hzS
              have hws := hide (show IntKind.i64.wrap ((pos : Int) + (W1.length : Int)) = (pos : Int) + (W1.length : Int) by simp [IntKind.wrap, IntKind.bits, IntKind.signed]; omega)
              replace hr1 := hide hr1
              replace hr2 := hide hr2
              replace hr3 := hide hr3
              replace hr4 := hide hr4
              replace hcut2 := hide hcut2
              have hkl := hide hlt2'
              clear q21 hcw hcl
              by_cases hkz0 : k = 0
              · have hkz := hide (show (k : Int) = 0 by omega)
                replace hkz0 := hide hkz0
                clear hprev
                refine wp_region_flow (fun _ => False) (factAt [(fun v _ => v = (.slice (some ⟨tb, 0, none⟩) l.length c1)), (fun v _ => v = (.int .i64 k)), (fun v _ => v = (.pointer (some ⟨tb, k * 3, none⟩))), (fun v _ => v = (.pointer (some ⟨tb, k * 3 + 1, none⟩))), (fun v _ => v = (.string (strB W1))), (fun v _ => v = (.string (strB W1))), (fun v _ => v = (.bool false)), (fun v _ => v = (.bool false)), (fun v _ => v = (.slice (some ⟨tb, 0, none⟩) l.length c1)), (fun v _ => v = (.int .i64 k)), (fun v _ => v = (.pointer (some ⟨tb, k * 3, none⟩))), (fun v _ => v = (.pointer (some ⟨tb, k * 3 + 2, none⟩))), (fun v _ => v = (.int .i64 pos)), (fun v _ => v = (.string (strB W1))), (fun v _ => v = (.int .i64 W1.length)), (fun v _ => v = (.int .i64 ((pos : Int) + (W1.length : Int)))), (fun v _ => v = (.string (strB S))), (fun v _ => v = (.int .i64 S.length)), (fun v _ => v = (.bool false)), (fun v _ => v = (.bool false)), (fun v _ => v = (.bool false)), (fun v _ => v = (.string (strB S))), (fun v _ => v = (.slice (some ⟨tb, 0, none⟩) l.length c1)), (fun v _ => v = (.int .i64 k)), (fun v _ => v = (.pointer (some ⟨tb, k * 3, none⟩))), (fun v _ => v = (.pointer (some ⟨tb, k * 3 + 2, none⟩))), (fun v _ => v = (.int .i64 pos)), (fun v _ => v = (.slice (some ⟨tb, 0, none⟩) l.length c1)), (fun v _ => v = (.int .i64 k)), (fun v _ => v = (.pointer (some ⟨tb, k * 3, none⟩))), (fun v _ => v = (.pointer (some ⟨tb, k * 3 + 2, none⟩))), (fun v _ => v = (.int .i64 pos)), (fun v _ => v = (.string (strB W1))), (fun v _ => v = (.int .i64 W1.length)), (fun v _ => v = (.int .i64 ((pos : Int) + (W1.length : Int)))), (fun v _ => v = (.string (strB W1))), (fun v _ => v = (.string (strB W1))), (fun v _ => v = (.bool false)), (fun v _ => v = (.bool false)), (fun v _ => v = (.bool false)), (fun v _ => v = (.int .i64 k)), (fun v _ => v = (.bool false)), (fun v _ => v = (.bool false)), (fun v _ => v = undef), (fun v _ => v = undef), (fun v _ => v = undef), (fun v _ => v = undef), (fun v _ => v = undef), (fun v _ => v = undef), (fun v _ => v = undef), (fun v _ => v = undef), (fun v _ => v = undef), (fun v _ => v = undef), (fun v _ => v = undef), (fun v _ => v = undef), (fun v _ => v = (Value.bool false)), (fun v _ => v = (Value.bool false))]) [] (fun _ => True) (by kernel_rfl) (fkept_at ⟨FKept.eq _, FKept.eq _, FKept.eq _, FKept.eq _, FKept.eq _, FKept.eq _, FKept.eq _, FKept.eq _, FKept.eq _, FKept.eq _, FKept.eq _, FKept.eq _, FKept.eq _, FKept.eq _, FKept.eq _, FKept.eq _, FKept.eq _, FKept.eq _, FKept.eq _, FKept.eq _, FKept.eq _, FKept.eq _, FKept.eq _, FKept.eq _, FKept.eq _, FKept.eq _, FKept.eq _, FKept.eq _, FKept.eq _, FKept.eq _, FKept.eq _, FKept.eq _, FKept.eq _, FKept.eq _, FKept.eq _, FKept.eq _, FKept.eq _, FKept.eq _, FKept.eq _, FKept.eq _, FKept.eq _, FKept.eq _, FKept.eq _, FKept.eq _, FKept.eq _, FKept.eq _, FKept.eq _, FKept.eq _, FKept.eq _, FKept.eq _, FKept.eq _, FKept.eq _, FKept.eq _, FKept.eq _, FKept.eq _, FKept.eq _, FKept.eq _, trivial⟩) (fun _ _ h _ => h) trivial (by kernel_rfl) (by kernel_rfl) (by kernel_rfl) (by kernel_rfl) (Nat.le_of_ble_eq_true (by kernel_rfl)) ?_ ⟨?_, ?_, ?_, ?_, ?_, ?_, ?_, ?_, ?_, ?_, ?_, ?_, ?_, ?_, ?_, ?_, ?_, ?_, ?_, ?_, ?_, ?_, ?_, ?_, ?_, ?_, ?_, ?_, ?_, ?_, ?_, ?_, ?_, ?_, ?_, ?_, ?_, ?_, ?_, ?_, ?_, ?_, ?_, ?_, ?_, ?_, ?_, ?_, ?_, ?_, ?_, ?_, ?_, ?_, ?_, ?_, ?_, trivial⟩ ?_
                · first | exact trivial | assumption
                · intro T w Q hu hs hv hw hd
                  have hx8 : T.getD 8 undef = (.slice (some ⟨tb, 0, none⟩) l.length c1) := hv 8 (by kernel_rfl)
                  refine .inl ⟨wanted_none rfl, ?_⟩
                  clear hd hv hu hs hw
                  go_simp
                  exact ⟨_, rfl, DstOk.some rfl, Below.refl _ _, rfl⟩
                · intro T w Q hu hs hv hw hd
                  have hx11 : T.getD 11 undef = (.int .i64 k) := hv 11 (by kernel_rfl)
                  refine .inl ⟨wanted_none rfl, ?_⟩
                  clear hd hv hu hs hw
                  go_simp
                  exact ⟨_, rfl, DstOk.some rfl, Below.refl _ _, rfl⟩
                · intro T w Q hu hs hv hw hd
                  have hx88 : T.getD 88 undef = (.slice (some ⟨tb, 0, none⟩) l.length c1) := Deps.at 0 hd (by kernel_rfl)
                  have hx89 : T.getD 89 undef = (.int .i64 k) := Deps.at 1 hd (by kernel_rfl)
                  refine .inl ⟨wanted_none rfl, ?_⟩
                  have a0 := hkl.out
                  clear hd hv hu hs hw
                  go_simp
                  exact ⟨_, rfl, DstOk.some rfl, Below.refl _ _, rfl⟩
                · intro T w Q hu hs hv hw hd
                  have hx90 : T.getD 90 undef = (.pointer (some ⟨tb, k * 3, none⟩)) := Deps.at 2 hd (by kernel_rfl)
                  refine .inl ⟨wanted_none rfl, ?_⟩
                  clear hd hv hu hs hw
                  go_simp
                  exact ⟨_, rfl, DstOk.some rfl, Below.refl _ _, rfl⟩
                · intro T w Q hu hs hv hw hd
                  have hx91 : T.getD 91 undef = (.pointer (some ⟨tb, k * 3 + 1, none⟩)) := Deps.at 3 hd (by kernel_rfl)
                  refine .inl ⟨wanted_none rfl, ?_⟩
                  have hq := hu.cell p1.out id
                  clear hd hv hu hs hw
                  go_simp
                  exact ⟨_, rfl, DstOk.some rfl, Below.refl _ _, rfl⟩
                · intro T w Q hu hs hv hw hd
                  have hx12 : T.getD 12 undef = (.string (strB W1)) := hv 12 (by kernel_rfl)
                  refine .inl ⟨wanted_none rfl, ?_⟩
                  clear hd hv hu hs hw
                  go_simp
                  exact ⟨_, rfl, DstOk.some rfl, Below.refl _ _, rfl⟩
                · intro T w Q hu hs hv hw hd
                  have hx92 : T.getD 92 undef = (.string (strB W1)) := Deps.at 4 hd (by kernel_rfl)
                  have hx93 : T.getD 93 undef = (.string (strB W1)) := Deps.at 5 hd (by kernel_rfl)
                  refine .inl ⟨wanted_none rfl, ?_⟩
                  clear hd hv hu hs hw
                  go_simp
                  exact ⟨_, rfl, DstOk.some rfl, Below.refl _ _, rfl⟩
                · intro T w Q hu hs hv hw hd
                  have hx94 : T.getD 94 undef = (.bool false) := Deps.at 6 hd (by kernel_rfl)
                  refine .inl ⟨wanted_none rfl, ?_⟩
                  clear hd hv hu hs hw
                  go_simp
                  exact ⟨_, rfl, DstOk.some rfl, Below.refl _ _, rfl⟩
                · intro T w Q hu hs hv hw hd
                  have hx8 : T.getD 8 undef = (.slice (some ⟨tb, 0, none⟩) l.length c1) := hv 8 (by kernel_rfl)
                  refine .inl ⟨wanted_some rfl (Deps.at 7 hd (by kernel_rfl) : slotOf _ T 7 = .bool false), ?_⟩
                  clear hd hv hu hs hw
                  go_simp
                  exact ⟨_, rfl, DstOk.some rfl, Below.refl _ _, rfl⟩
                · intro T w Q hu hs hv hw hd
                  have hx11 : T.getD 11 undef = (.int .i64 k) := hv 11 (by kernel_rfl)
                  refine .inl ⟨wanted_some rfl (Deps.at 7 hd (by kernel_rfl) : slotOf _ T 7 = .bool false), ?_⟩
                  clear hd hv hu hs hw
                  go_simp
                  exact ⟨_, rfl, DstOk.some rfl, Below.refl _ _, rfl⟩
                · intro T w Q hu hs hv hw hd
                  have hx96 : T.getD 96 undef = (.slice (some ⟨tb, 0, none⟩) l.length c1) := Deps.at 8 hd (by kernel_rfl)
                  have hx97 : T.getD 97 undef = (.int .i64 k) := Deps.at 9 hd (by kernel_rfl)
                  refine .inl ⟨wanted_some rfl (Deps.at 7 hd (by kernel_rfl) : slotOf _ T 7 = .bool false), ?_⟩
                  have a0 := hkl.out
                  clear hd hv hu hs hw
                  go_simp
                  exact ⟨_, rfl, DstOk.some rfl, Below.refl _ _, rfl⟩
                · intro T w Q hu hs hv hw hd
                  have hx98 : T.getD 98 undef = (.pointer (some ⟨tb, k * 3, none⟩)) := Deps.at 10 hd (by kernel_rfl)
                  refine .inl ⟨wanted_some rfl (Deps.at 7 hd (by kernel_rfl) : slotOf _ T 7 = .bool false), ?_⟩
                  clear hd hv hu hs hw
                  go_simp
                  exact ⟨_, rfl, DstOk.some rfl, Below.refl _ _, rfl⟩
                · intro T w Q hu hs hv hw hd
                  have hx99 : T.getD 99 undef = (.pointer (some ⟨tb, k * 3 + 2, none⟩)) := Deps.at 11 hd (by kernel_rfl)
                  refine .inl ⟨wanted_some rfl (Deps.at 7 hd (by kernel_rfl) : slotOf _ T 7 = .bool false), ?_⟩
                  have hq := hu.cell p2.out id
                  clear hd hv hu hs hw
                  go_simp
                  exact ⟨_, rfl, DstOk.some rfl, Below.refl _ _, rfl⟩
                · intro T w Q hu hs hv hw hd
                  have hx12 : T.getD 12 undef = (.string (strB W1)) := hv 12 (by kernel_rfl)
                  refine .inl ⟨wanted_some rfl (Deps.at 7 hd (by kernel_rfl) : slotOf _ T 7 = .bool false), ?_⟩
                  clear hd hv hu hs hw
                  go_simp
                  exact ⟨_, rfl, DstOk.some rfl, Below.refl _ _, rfl⟩
                · intro T w Q hu hs hv hw hd
                  have hx101 : T.getD 101 undef = (.string (strB W1)) := Deps.at 13 hd (by kernel_rfl)
                  refine .inl ⟨wanted_some rfl (Deps.at 7 hd (by kernel_rfl) : slotOf _ T 7 = .bool false), ?_⟩
                  have a0 := hzW.out
                  clear hd hv hu hs hw
                  go_simp
                  exact ⟨_, rfl, DstOk.some rfl, Below.refl _ _, rfl⟩
                · intro T w Q hu hs hv hw hd
                  have hx100 : T.getD 100 undef = (.int .i64 pos) := Deps.at 12 hd (by kernel_rfl)
                  have hx102 : T.getD 102 undef = (.int .i64 W1.length) := Deps.at 14 hd (by kernel_rfl)
                  refine .inl ⟨wanted_some rfl (Deps.at 7 hd (by kernel_rfl) : slotOf _ T 7 = .bool false), ?_⟩
                  clear hd hv hu hs hw
                  go_simp
                  exact ⟨_, rfl, DstOk.some rfl, Below.refl _ _, congrArg (Value.int .i64) hws.out⟩
                · intro T w Q hu hs hv hw hd
                  have hx6 : T.getD 6 undef = (.string (strB S)) := hv 6 (by kernel_rfl)
                  refine .inl ⟨wanted_some rfl (Deps.at 7 hd (by kernel_rfl) : slotOf _ T 7 = .bool false), ?_⟩
                  clear hd hv hu hs hw
                  go_simp
                  exact ⟨_, rfl, DstOk.some rfl, Below.refl _ _, rfl⟩
                · intro T w Q hu hs hv hw hd
                  have hx104 : T.getD 104 undef = (.string (strB S)) := Deps.at 16 hd (by kernel_rfl)
                  refine .inl ⟨wanted_some rfl (Deps.at 7 hd (by kernel_rfl) : slotOf _ T 7 = .bool false), ?_⟩
                  have a0 := hzS.out
                  clear hd hv hu hs hw
                  go_simp
                  exact ⟨_, rfl, DstOk.some rfl, Below.refl _ _, rfl⟩
                · intro T w Q hu hs hv hw hd
                  have hx103 : T.getD 103 undef = (.int .i64 ((pos : Int) + (W1.length : Int))) := Deps.at 15 hd (by kernel_rfl)
                  have hx105 : T.getD 105 undef = (.int .i64 S.length) := Deps.at 17 hd (by kernel_rfl)
                  refine .inl ⟨wanted_some rfl (Deps.at 7 hd (by kernel_rfl) : slotOf _ T 7 = .bool false), ?_⟩
                  have a0 := hr1.out
                  clear hd hv hu hs hw
                  go_simp
                  exact ⟨_, rfl, DstOk.some rfl, Below.refl _ _, by first | rfl | exact congrArg Value.bool (decide_eq_false (by omega))⟩
                · intro T w Q hu hs hv hw hd
                  have hx95 : T.getD 95 undef = (.bool false) := Deps.at 7 hd (by kernel_rfl)
                  have hx106 : T.getD 106 undef = (.bool false) := Deps.at 18 hd (by kernel_rfl)
                  refine .inl ⟨wanted_none rfl, ?_⟩
                  clear hd hv hu hs hw
                  go_simp
                  exact ⟨_, rfl, DstOk.some rfl, Below.refl _ _, rfl⟩
                · intro T w Q hu hs hv hw hd
                  have hx107 : T.getD 107 undef = (.bool false) := Deps.at 19 hd (by kernel_rfl)
                  refine .inl ⟨wanted_none rfl, ?_⟩
                  clear hd hv hu hs hw
                  go_simp
                  exact ⟨_, rfl, DstOk.some rfl, Below.refl _ _, rfl⟩
                · intro T w Q hu hs hv hw hd
                  have hx6 : T.getD 6 undef = (.string (strB S)) := hv 6 (by kernel_rfl)
                  refine .inl ⟨wanted_some rfl (Deps.at 20 hd (by kernel_rfl) : slotOf _ T 20 = .bool false), ?_⟩
                  clear hd hv hu hs hw
                  go_simp
                  exact ⟨_, rfl, DstOk.some rfl, Below.refl _ _, rfl⟩
                · intro T w Q hu hs hv hw hd
                  have hx8 : T.getD 8 undef = (.slice (some ⟨tb, 0, none⟩) l.length c1) := hv 8 (by kernel_rfl)
                  refine .inl ⟨wanted_some rfl (Deps.at 20 hd (by kernel_rfl) : slotOf _ T 20 = .bool false), ?_⟩
                  clear hd hv hu hs hw
                  go_simp
                  exact ⟨_, rfl, DstOk.some rfl, Below.refl _ _, rfl⟩
                · intro T w Q hu hs hv hw hd
                  have hx11 : T.getD 11 undef = (.int .i64 k) := hv 11 (by kernel_rfl)
                  refine .inl ⟨wanted_some rfl (Deps.at 20 hd (by kernel_rfl) : slotOf _ T 20 = .bool false), ?_⟩
                  clear hd hv hu hs hw
                  go_simp
                  exact ⟨_, rfl, DstOk.some rfl, Below.refl _ _, rfl⟩
                · intro T w Q hu hs hv hw hd
                  have hx110 : T.getD 110 undef = (.slice (some ⟨tb, 0, none⟩) l.length c1) := Deps.at 22 hd (by kernel_rfl)
                  have hx111 : T.getD 111 undef = (.int .i64 k) := Deps.at 23 hd (by kernel_rfl)
                  refine .inl ⟨wanted_some rfl (Deps.at 20 hd (by kernel_rfl) : slotOf _ T 20 = .bool false), ?_⟩
                  have a0 := hkl.out
                  clear hd hv hu hs hw
                  go_simp
                  exact ⟨_, rfl, DstOk.some rfl, Below.refl _ _, rfl⟩
                · intro T w Q hu hs hv hw hd
                  have hx112 : T.getD 112 undef = (.pointer (some ⟨tb, k * 3, none⟩)) := Deps.at 24 hd (by kernel_rfl)
                  refine .inl ⟨wanted_some rfl (Deps.at 20 hd (by kernel_rfl) : slotOf _ T 20 = .bool false), ?_⟩
                  clear hd hv hu hs hw
                  go_simp
                  exact ⟨_, rfl, DstOk.some rfl, Below.refl _ _, rfl⟩
                · intro T w Q hu hs hv hw hd
                  have hx113 : T.getD 113 undef = (.pointer (some ⟨tb, k * 3 + 2, none⟩)) := Deps.at 25 hd (by kernel_rfl)
                  refine .inl ⟨wanted_some rfl (Deps.at 20 hd (by kernel_rfl) : slotOf _ T 20 = .bool false), ?_⟩
                  have hq := hu.cell p2.out id
                  clear hd hv hu hs hw
                  go_simp
                  exact ⟨_, rfl, DstOk.some rfl, Below.refl _ _, rfl⟩
                · intro T w Q hu hs hv hw hd
                  have hx8 : T.getD 8 undef = (.slice (some ⟨tb, 0, none⟩) l.length c1) := hv 8 (by kernel_rfl)
                  refine .inl ⟨wanted_some rfl (Deps.at 20 hd (by kernel_rfl) : slotOf _ T 20 = .bool false), ?_⟩
                  clear hd hv hu hs hw
                  go_simp
                  exact ⟨_, rfl, DstOk.some rfl, Below.refl _ _, rfl⟩
                · intro T w Q hu hs hv hw hd
                  have hx11 : T.getD 11 undef = (.int .i64 k) := hv 11 (by kernel_rfl)
                  refine .inl ⟨wanted_some rfl (Deps.at 20 hd (by kernel_rfl) : slotOf _ T 20 = .bool false), ?_⟩
                  clear hd hv hu hs hw
                  go_simp
                  exact ⟨_, rfl, DstOk.some rfl, Below.refl _ _, rfl⟩
                · intro T w Q hu hs hv hw hd
                  have hx115 : T.getD 115 undef = (.slice (some ⟨tb, 0, none⟩) l.length c1) := Deps.at 27 hd (by kernel_rfl)
                  have hx116 : T.getD 116 undef = (.int .i64 k) := Deps.at 28 hd (by kernel_rfl)
                  refine .inl ⟨wanted_some rfl (Deps.at 20 hd (by kernel_rfl) : slotOf _ T 20 = .bool false), ?_⟩
                  have a0 := hkl.out
                  clear hd hv hu hs hw
                  go_simp
                  exact ⟨_, rfl, DstOk.some rfl, Below.refl _ _, rfl⟩
                · intro T w Q hu hs hv hw hd
                  have hx117 : T.getD 117 undef = (.pointer (some ⟨tb, k * 3, none⟩)) := Deps.at 29 hd (by kernel_rfl)
                  refine .inl ⟨wanted_some rfl (Deps.at 20 hd (by kernel_rfl) : slotOf _ T 20 = .bool false), ?_⟩
                  clear hd hv hu hs hw
                  go_simp
                  exact ⟨_, rfl, DstOk.some rfl, Below.refl _ _, rfl⟩
                · intro T w Q hu hs hv hw hd
                  have hx118 : T.getD 118 undef = (.pointer (some ⟨tb, k * 3 + 2, none⟩)) := Deps.at 30 hd (by kernel_rfl)
                  refine .inl ⟨wanted_some rfl (Deps.at 20 hd (by kernel_rfl) : slotOf _ T 20 = .bool false), ?_⟩
                  have hq := hu.cell p2.out id
                  clear hd hv hu hs hw
                  go_simp
                  exact ⟨_, rfl, DstOk.some rfl, Below.refl _ _, rfl⟩
                · intro T w Q hu hs hv hw hd
                  have hx12 : T.getD 12 undef = (.string (strB W1)) := hv 12 (by kernel_rfl)
                  refine .inl ⟨wanted_some rfl (Deps.at 20 hd (by kernel_rfl) : slotOf _ T 20 = .bool false), ?_⟩
                  clear hd hv hu hs hw
                  go_simp
                  exact ⟨_, rfl, DstOk.some rfl, Below.refl _ _, rfl⟩
                · intro T w Q hu hs hv hw hd
                  have hx120 : T.getD 120 undef = (.string (strB W1)) := Deps.at 32 hd (by kernel_rfl)
                  refine .inl ⟨wanted_some rfl (Deps.at 20 hd (by kernel_rfl) : slotOf _ T 20 = .bool false), ?_⟩
                  have a0 := hzW.out
                  clear hd hv hu hs hw
                  go_simp
                  exact ⟨_, rfl, DstOk.some rfl, Below.refl _ _, rfl⟩
                · intro T w Q hu hs hv hw hd
                  have hx119 : T.getD 119 undef = (.int .i64 pos) := Deps.at 31 hd (by kernel_rfl)
                  have hx121 : T.getD 121 undef = (.int .i64 W1.length) := Deps.at 33 hd (by kernel_rfl)
                  refine .inl ⟨wanted_some rfl (Deps.at 20 hd (by kernel_rfl) : slotOf _ T 20 = .bool false), ?_⟩
                  clear hd hv hu hs hw
                  go_simp
                  exact ⟨_, rfl, DstOk.some rfl, Below.refl _ _, congrArg (Value.int .i64) hws.out⟩
                · intro T w Q hu hs hv hw hd
                  have hx109 : T.getD 109 undef = (.string (strB S)) := Deps.at 21 hd (by kernel_rfl)
                  have hx114 : T.getD 114 undef = (.int .i64 pos) := Deps.at 26 hd (by kernel_rfl)
                  have hx122 : T.getD 122 undef = (.int .i64 ((pos : Int) + (W1.length : Int))) := Deps.at 34 hd (by kernel_rfl)
                  refine .inl ⟨wanted_some rfl (Deps.at 20 hd (by kernel_rfl) : slotOf _ T 20 = .bool false), ?_⟩
                  have hC := hcut2.out w
                  clear hd hv hu hs hw
                  go_simp
                  exact ⟨_, rfl, DstOk.some rfl, Below.refl _ _, rfl⟩
                · intro T w Q hu hs hv hw hd
                  have hx12 : T.getD 12 undef = (.string (strB W1)) := hv 12 (by kernel_rfl)
                  refine .inl ⟨wanted_some rfl (Deps.at 20 hd (by kernel_rfl) : slotOf _ T 20 = .bool false), ?_⟩
                  clear hd hv hu hs hw
                  go_simp
                  exact ⟨_, rfl, DstOk.some rfl, Below.refl _ _, rfl⟩
                · intro T w Q hu hs hv hw hd
                  have hx123 : T.getD 123 undef = (.string (strB W1)) := Deps.at 35 hd (by kernel_rfl)
                  have hx124 : T.getD 124 undef = (.string (strB W1)) := Deps.at 36 hd (by kernel_rfl)
                  refine .inl ⟨wanted_some rfl (Deps.at 20 hd (by kernel_rfl) : slotOf _ T 20 = .bool false), ?_⟩
                  clear hd hv hu hs hw
                  go_simp
                  exact ⟨_, rfl, DstOk.some rfl, Below.refl _ _, rfl⟩
                · intro T w Q hu hs hv hw hd
                  have hx108 : T.getD 108 undef = (.bool false) := Deps.at 20 hd (by kernel_rfl)
                  have hx125 : T.getD 125 undef = (.bool false) := Deps.at 37 hd (by kernel_rfl)
                  refine .inl ⟨wanted_none rfl, ?_⟩
                  clear hd hv hu hs hw
                  go_simp
                  exact ⟨_, rfl, DstOk.some rfl, Below.refl _ _, rfl⟩
                · intro T w Q hu hs hv hw hd
                  have hx126 : T.getD 126 undef = (.bool false) := Deps.at 38 hd (by kernel_rfl)
                  refine .inl ⟨wanted_none rfl, ?_⟩
                  clear hd hv hu hs hw
                  go_simp
                  exact ⟨_, rfl, DstOk.some rfl, Below.refl _ _, rfl⟩
                · intro T w Q hu hs hv hw hd
                  have hx11 : T.getD 11 undef = (.int .i64 k) := hv 11 (by kernel_rfl)
                  refine .inl ⟨wanted_some rfl (Deps.at 39 hd (by kernel_rfl) : slotOf _ T 39 = .bool false), ?_⟩
                  clear hd hv hu hs hw
                  go_simp
                  exact ⟨_, rfl, DstOk.some rfl, Below.refl _ _, rfl⟩
                · intro T w Q hu hs hv hw hd
                  have hx128 : T.getD 128 undef = (.int .i64 k) := Deps.at 40 hd (by kernel_rfl)
                  refine .inl ⟨wanted_some rfl (Deps.at 39 hd (by kernel_rfl) : slotOf _ T 39 = .bool false), ?_⟩
                  have a0 := hkz.out
                  clear hd hv hu hs hw
                  go_simp
                  exact ⟨_, rfl, DstOk.some rfl, Below.refl _ _, by first | rfl | exact congrArg Value.bool (decide_eq_false (by omega))⟩
                · intro T w Q hu hs hv hw hd
                  have hx129 : T.getD 129 undef = (.bool false) := Deps.at 41 hd (by kernel_rfl)
                  refine .inl ⟨wanted_some rfl (Deps.at 39 hd (by kernel_rfl) : slotOf _ T 39 = .bool false), ?_⟩
                  clear hd hv hu hs hw
                  go_simp
                  exact ⟨_, rfl, DstOk.some rfl, Below.refl _ _, rfl⟩
                · intro T w Q hu hs hv hw hd
                  exact .inr ⟨wanted_not rfl (Deps.at 42 hd (by kernel_rfl) : slotOf _ T 42 = .bool (!true)), rfl⟩
                · intro T w Q hu hs hv hw hd
                  exact .inr ⟨wanted_not rfl (Deps.at 42 hd (by kernel_rfl) : slotOf _ T 42 = .bool (!true)), rfl⟩
                · intro T w Q hu hs hv hw hd
                  exact .inr ⟨wanted_not rfl (Deps.at 42 hd (by kernel_rfl) : slotOf _ T 42 = .bool (!true)), rfl⟩
                · intro T w Q hu hs hv hw hd
                  exact .inr ⟨wanted_not rfl (Deps.at 42 hd (by kernel_rfl) : slotOf _ T 42 = .bool (!true)), rfl⟩
                · intro T w Q hu hs hv hw hd
                  exact .inr ⟨wanted_not rfl (Deps.at 42 hd (by kernel_rfl) : slotOf _ T 42 = .bool (!true)), rfl⟩
                · intro T w Q hu hs hv hw hd
                  exact .inr ⟨wanted_not rfl (Deps.at 42 hd (by kernel_rfl) : slotOf _ T 42 = .bool (!true)), rfl⟩
                · intro T w Q hu hs hv hw hd
                  exact .inr ⟨wanted_not rfl (Deps.at 42 hd (by kernel_rfl) : slotOf _ T 42 = .bool (!true)), rfl⟩
                · intro T w Q hu hs hv hw hd
                  exact .inr ⟨wanted_not rfl (Deps.at 42 hd (by kernel_rfl) : slotOf _ T 42 = .bool (!true)), rfl⟩
                · intro T w Q hu hs hv hw hd
                  exact .inr ⟨wanted_not rfl (Deps.at 42 hd (by kernel_rfl) : slotOf _ T 42 = .bool (!true)), rfl⟩
                · intro T w Q hu hs hv hw hd
                  exact .inr ⟨wanted_not rfl (Deps.at 42 hd (by kernel_rfl) : slotOf _ T 42 = .bool (!true)), rfl⟩
                · intro T w Q hu hs hv hw hd
                  exact .inr ⟨wanted_not rfl (Deps.at 42 hd (by kernel_rfl) : slotOf _ T 42 = .bool (!true)), rfl⟩
                · intro T w Q hu hs hv hw hd
                  exact .inr ⟨wanted_not rfl (Deps.at 42 hd (by kernel_rfl) : slotOf _ T 42 = .bool (!true)), rfl⟩
                · intro T w Q hu hs hv hw hd
                  have hx130 : T.getD 130 undef = (.bool false) := Deps.at 42 hd (by kernel_rfl)
                  have hx142 : T.getD 142 undef = undef := Deps.at 54 hd (by kernel_rfl)
                  refine .inl ⟨wanted_some rfl (Deps.at 39 hd (by kernel_rfl) : slotOf _ T 39 = .bool false), ?_⟩
                  clear hd hv hu hs hw
                  go_simp
                  exact ⟨_, rfl, DstOk.some rfl, Below.refl _ _, rfl⟩
                · intro T w Q hu hs hv hw hd
                  have hx127 : T.getD 127 undef = (.bool false) := Deps.at 39 hd (by kernel_rfl)
                  have hx143 : T.getD 143 undef = (Value.bool false) := Deps.at 55 hd (by kernel_rfl)
                  refine .inl ⟨wanted_none rfl, ?_⟩
                  clear hd hv hu hs hw
                  go_simp
                  exact ⟨_, rfl, DstOk.some rfl, Below.refl _ _, rfl⟩
                intro T w hu hs hv hf hcur
                have hT : T = #[T.getD 0 undef, T.getD 1 undef, T.getD 2 undef, T.getD 3 undef, T.getD 4 undef, T.getD 5 undef, T.getD 6 undef, T.getD 7 undef, T.getD 8 undef, T.getD 9 undef, T.getD 10 undef, T.getD 11 undef, T.getD 12 undef, T.getD 13 undef, T.getD 14 undef, T.getD 15 undef, T.getD 16 undef, T.getD 17 undef, T.getD 18 undef, T.getD 19 undef, T.getD 20 undef, T.getD 21 undef, T.getD 22 undef, T.getD 23 undef, T.getD 24 undef, T.getD 25 undef, T.getD 26 undef, T.getD 27 undef, T.getD 28 undef, T.getD 29 undef, T.getD 30 undef, T.getD 31 undef, T.getD 32 undef, T.getD 33 undef, T.getD 34 undef, T.getD 35 undef, T.getD 36 undef, T.getD 37 undef, T.getD 38 undef, T.getD 39 undef, T.getD 40 undef, T.getD 41 undef, T.getD 42 undef, T.getD 43 undef, T.getD 44 undef, T.getD 45 undef, T.getD 46 undef, T.getD 47 undef, T.getD 48 undef, T.getD 49 undef, T.getD 50 undef, T.getD 51 undef, T.getD 52 undef, T.getD 53 undef, T.getD 54 undef, T.getD 55 undef, T.getD 56 undef, T.getD 57 undef, T.getD 58 undef, T.getD 59 undef, T.getD 60 undef, T.getD 61 undef, T.getD 62 undef, T.getD 63 undef, T.getD 64 undef, T.getD 65 undef, T.getD 66 undef, T.getD 67 undef, T.getD 68 undef, T.getD 69 undef, T.getD 70 undef, T.getD 71 undef, T.getD 72 undef, T.getD 73 undef, T.getD 74 undef, T.getD 75 undef, T.getD 76 undef, T.getD 77 undef, T.getD 78 undef, T.getD 79 undef, T.getD 80 undef, T.getD 81 undef, T.getD 82 undef, T.getD 83 undef, T.getD 84 undef, T.getD 85 undef, T.getD 86 undef, T.getD 87 undef, T.getD 88 undef, T.getD 89 undef, T.getD 90 undef, T.getD 91 undef, T.getD 92 undef, T.getD 93 undef, T.getD 94 undef, T.getD 95 undef, T.getD 96 undef, T.getD 97 undef, T.getD 98 undef, T.getD 99 undef, T.getD 100 undef, T.getD 101 undef, T.getD 102 undef, T.getD 103 undef, T.getD 104 undef, T.getD 105 undef, T.getD 106 undef, T.getD 107 undef, T.getD 108 undef, T.getD 109 undef, T.getD 110 undef, T.getD 111 undef, T.getD 112 undef, T.getD 113 undef, T.getD 114 undef, T.getD 115 undef, T.getD 116 undef, T.getD 117 undef, T.getD 118 undef, T.getD 119 undef, T.getD 120 undef, T.getD 121 undef, T.getD 122 undef, T.getD 123 undef, T.getD 124 undef, T.getD 125 undef, T.getD 126 undef, T.getD 127 undef, T.getD 128 undef, T.getD 129 undef, T.getD 130 undef, T.getD 131 undef, T.getD 132 undef, T.getD 133 undef, T.getD 134 undef, T.getD 135 undef, T.getD 136 undef, T.getD 137 undef, T.getD 138 undef, T.getD 139 undef, T.getD 140 undef, T.getD 141 undef, T.getD 142 undef, T.getD 143 undef, T.getD 144 undef, T.getD 145 undef, T.getD 146 undef, T.getD 147 undef, T.getD 148 undef, T.getD 149 undef, T.getD 150 undef, T.getD 151 undef, T.getD 152 undef, T.getD 153 undef, T.getD 154 undef, T.getD 155 undef, T.getD 156 undef, T.getD 157 undef, T.getD 158 undef, T.getD 159 undef, T.getD 160 undef, T.getD 161 undef, T.getD 162 undef, T.getD 163 undef, T.getD 164 undef, T.getD 165 undef, T.getD 166 undef, T.getD 167 undef, T.getD 168 undef, T.getD 169 undef] := expl hs
                rw [hT]
                clear hT
                rw [show T.getD 0 undef = (.slice (some ⟨bl, ol, none⟩) l.length c0) from hv 0 (by kernel_rfl)]
                rw [show T.getD 1 undef = (.slice A2 b.length c2) from hv 1 (by kernel_rfl)]
                rw [hv 2 (by kernel_rfl)]
                rw [hv 3 (by kernel_rfl)]
                rw [hv 4 (by kernel_rfl)]
                rw [show T.getD 5 undef = (.slice (some ⟨wb, 0, none⟩) 21 21) from hv 5 (by kernel_rfl)]
                rw [show T.getD 6 undef = (.string (strB S)) from hv 6 (by kernel_rfl)]
                rw [hv 7 (by kernel_rfl)]
                rw [show T.getD 8 undef = (.slice (some ⟨tb, 0, none⟩) l.length c1) from hv 8 (by kernel_rfl)]
                rw [hv 9 (by kernel_rfl)]
                rw [hv 10 (by kernel_rfl)]
                rw [show T.getD 11 undef = (.int .i64 k) from hv 11 (by kernel_rfl)]
                rw [show T.getD 12 undef = (.string (strB W1)) from hv 12 (by kernel_rfl)]
                rw [hv 13 (by kernel_rfl)]
                rw [hv 14 (by kernel_rfl)]
                rw [hv 15 (by kernel_rfl)]
                rw [hv 16 (by kernel_rfl)]
                rw [hv 17 (by kernel_rfl)]
                rw [hv 18 (by kernel_rfl)]
                rw [hv 19 (by kernel_rfl)]
                rw [hv 20 (by kernel_rfl)]
                rw [hv 21 (by kernel_rfl)]
                rw [hv 22 (by kernel_rfl)]
                rw [hv 23 (by kernel_rfl)]
                rw [hv 24 (by kernel_rfl)]
                rw [hv 25 (by kernel_rfl)]
                rw [hv 26 (by kernel_rfl)]
                rw [hv 27 (by kernel_rfl)]
                rw [hv 28 (by kernel_rfl)]
                rw [hv 29 (by kernel_rfl)]
                rw [hv 30 (by kernel_rfl)]
                rw [hv 31 (by kernel_rfl)]
                rw [hv 32 (by kernel_rfl)]
                rw [hv 33 (by kernel_rfl)]
                rw [hv 34 (by kernel_rfl)]
                rw [hv 35 (by kernel_rfl)]
                rw [hv 36 (by kernel_rfl)]
                rw [hv 37 (by kernel_rfl)]
                rw [hv 38 (by kernel_rfl)]
                rw [hv 39 (by kernel_rfl)]
                rw [hv 40 (by kernel_rfl)]
                rw [hv 41 (by kernel_rfl)]
                rw [hv 42 (by kernel_rfl)]
                rw [hv 43 (by kernel_rfl)]
                rw [hv 44 (by kernel_rfl)]
                rw [hv 45 (by kernel_rfl)]
                rw [hv 46 (by kernel_rfl)]
                rw [hv 47 (by kernel_rfl)]
                rw [hv 48 (by kernel_rfl)]
                rw [hv 49 (by kernel_rfl)]
                rw [hv 50 (by kernel_rfl)]
                rw [hv 51 (by kernel_rfl)]
                rw [hv 52 (by kernel_rfl)]
                rw [hv 53 (by kernel_rfl)]
                rw [hv 54 (by kernel_rfl)]
                rw [hv 55 (by kernel_rfl)]
                rw [hv 56 (by kernel_rfl)]
                rw [hv 57 (by kernel_rfl)]
                rw [hv 58 (by kernel_rfl)]
                rw [hv 59 (by kernel_rfl)]
                rw [hv 60 (by kernel_rfl)]
                rw [hv 61 (by kernel_rfl)]
                rw [hv 62 (by kernel_rfl)]
                rw [hv 63 (by kernel_rfl)]
                rw [hv 64 (by kernel_rfl)]
                rw [hv 65 (by kernel_rfl)]
                rw [hv 66 (by kernel_rfl)]
                rw [hv 67 (by kernel_rfl)]
                rw [hv 68 (by kernel_rfl)]
                rw [hv 69 (by kernel_rfl)]
                rw [hv 70 (by kernel_rfl)]
                rw [hv 71 (by kernel_rfl)]
                rw [hv 72 (by kernel_rfl)]
                rw [hv 73 (by kernel_rfl)]
                rw [hv 74 (by kernel_rfl)]
                rw [hv 75 (by kernel_rfl)]
                rw [hv 76 (by kernel_rfl)]
                rw [hv 77 (by kernel_rfl)]
                rw [hv 78 (by kernel_rfl)]
                rw [hv 79 (by kernel_rfl)]
                rw [hv 80 (by kernel_rfl)]
                rw [hv 81 (by kernel_rfl)]
                rw [hv 82 (by kernel_rfl)]
                rw [hv 83 (by kernel_rfl)]
                rw [hv 84 (by kernel_rfl)]
                rw [hv 85 (by kernel_rfl)]
                rw [hv 86 (by kernel_rfl)]
                rw [hv 87 (by kernel_rfl)]
                rw [show T.getD 88 undef = (.slice (some ⟨tb, 0, none⟩) l.length c1) from hf 0 (by decide)]
                rw [show T.getD 89 undef = (.int .i64 k) from hf 1 (by decide)]
                rw [show T.getD 90 undef = (.pointer (some ⟨tb, k * 3, none⟩)) from hf 2 (by decide)]
                rw [show T.getD 91 undef = (.pointer (some ⟨tb, k * 3 + 1, none⟩)) from hf 3 (by decide)]
                rw [show T.getD 92 undef = (.string (strB W1)) from hf 4 (by decide)]
                rw [show T.getD 93 undef = (.string (strB W1)) from hf 5 (by decide)]
                rw [show T.getD 94 undef = (.bool false) from hf 6 (by decide)]
                rw [show T.getD 95 undef = (.bool false) from hf 7 (by decide)]
                rw [show T.getD 96 undef = (.slice (some ⟨tb, 0, none⟩) l.length c1) from hf 8 (by decide)]
                rw [show T.getD 97 undef = (.int .i64 k) from hf 9 (by decide)]
                rw [show T.getD 98 undef = (.pointer (some ⟨tb, k * 3, none⟩)) from hf 10 (by decide)]
                rw [show T.getD 99 undef = (.pointer (some ⟨tb, k * 3 + 2, none⟩)) from hf 11 (by decide)]
                rw [show T.getD 100 undef = (.int .i64 pos) from hf 12 (by decide)]
                rw [show T.getD 101 undef = (.string (strB W1)) from hf 13 (by decide)]
                rw [show T.getD 102 undef = (.int .i64 W1.length) from hf 14 (by decide)]
                rw [show T.getD 103 undef = (.int .i64 ((pos : Int) + (W1.length : Int))) from hf 15 (by decide)]
                rw [show T.getD 104 undef = (.string (strB S)) from hf 16 (by decide)]
                rw [show T.getD 105 undef = (.int .i64 S.length) from hf 17 (by decide)]
                rw [show T.getD 106 undef = (.bool false) from hf 18 (by decide)]
                rw [show T.getD 107 undef = (.bool false) from hf 19 (by decide)]
                rw [show T.getD 108 undef = (.bool false) from hf 20 (by decide)]
                rw [show T.getD 109 undef = (.string (strB S)) from hf 21 (by decide)]
                rw [show T.getD 110 undef = (.slice (some ⟨tb, 0, none⟩) l.length c1) from hf 22 (by decide)]
                rw [show T.getD 111 undef = (.int .i64 k) from hf 23 (by decide)]
                rw [show T.getD 112 undef = (.pointer (some ⟨tb, k * 3, none⟩)) from hf 24 (by decide)]
                rw [show T.getD 113 undef = (.pointer (some ⟨tb, k * 3 + 2, none⟩)) from hf 25 (by decide)]
                rw [show T.getD 114 undef = (.int .i64 pos) from hf 26 (by decide)]
                rw [show T.getD 115 undef = (.slice (some ⟨tb, 0, none⟩) l.length c1) from hf 27 (by decide)]
                rw [show T.getD 116 undef = (.int .i64 k) from hf 28 (by decide)]
                rw [show T.getD 117 undef = (.pointer (some ⟨tb, k * 3, none⟩)) from hf 29 (by decide)]
                rw [show T.getD 118 undef = (.pointer (some ⟨tb, k * 3 + 2, none⟩)) from hf 30 (by decide)]
                rw [show T.getD 119 undef = (.int .i64 pos) from hf 31 (by decide)]
                rw [show T.getD 120 undef = (.string (strB W1)) from hf 32 (by decide)]
                rw [show T.getD 121 undef = (.int .i64 W1.length) from hf 33 (by decide)]
                rw [show T.getD 122 undef = (.int .i64 ((pos : Int) + (W1.length : Int))) from hf 34 (by decide)]
                rw [show T.getD 123 undef = (.string (strB W1)) from hf 35 (by decide)]
                rw [show T.getD 124 undef = (.string (strB W1)) from hf 36 (by decide)]
                rw [show T.getD 125 undef = (.bool false) from hf 37 (by decide)]
                rw [show T.getD 126 undef = (.bool false) from hf 38 (by decide)]
                rw [show T.getD 127 undef = (.bool false) from hf 39 (by decide)]
                rw [show T.getD 128 undef = (.int .i64 k) from hf 40 (by decide)]
                rw [show T.getD 129 undef = (.bool false) from hf 41 (by decide)]
                rw [show T.getD 130 undef = (.bool false) from hf 42 (by decide)]
                rw [show T.getD 131 undef = undef from hf 43 (by decide)]
                rw [show T.getD 132 undef = undef from hf 44 (by decide)]
                rw [show T.getD 133 undef = undef from hf 45 (by decide)]
                rw [show T.getD 134 undef = undef from hf 46 (by decide)]
                rw [show T.getD 135 undef = undef from hf 47 (by decide)]
                rw [show T.getD 136 undef = undef from hf 48 (by decide)]
                rw [show T.getD 137 undef = undef from hf 49 (by decide)]
                rw [show T.getD 138 undef = undef from hf 50 (by decide)]
                rw [show T.getD 139 undef = undef from hf 51 (by decide)]
                rw [show T.getD 140 undef = undef from hf 52 (by decide)]
                rw [show T.getD 141 undef = undef from hf 53 (by decide)]
                rw [show T.getD 142 undef = undef from hf 54 (by decide)]
                rw [show T.getD 143 undef = (Value.bool false) from hf 55 (by decide)]
                rw [show T.getD 144 undef = (Value.bool false) from hf 56 (by decide)]
                rw [hv 145 (by kernel_rfl)]
                rw [hv 146 (by kernel_rfl)]
                rw [hv 147 (by kernel_rfl)]
                rw [hv 148 (by kernel_rfl)]
                rw [hv 149 (by kernel_rfl)]
                rw [hv 150 (by kernel_rfl)]
                rw [hv 151 (by kernel_rfl)]
                rw [hv 152 (by kernel_rfl)]
                rw [hv 153 (by kernel_rfl)]
                rw [hv 154 (by kernel_rfl)]
                rw [hv 155 (by kernel_rfl)]
                rw [hv 156 (by kernel_rfl)]
                rw [hv 157 (by kernel_rfl)]
                rw [hv 158 (by kernel_rfl)]
                rw [hv 159 (by kernel_rfl)]
                rw [hv 160 (by kernel_rfl)]
                rw [hv 161 (by kernel_rfl)]
                rw [hv 162 (by kernel_rfl)]
                rw [hv 163 (by kernel_rfl)]
                rw [hv 164 (by kernel_rfl)]
                rw [hv 165 (by kernel_rfl)]
                rw [hv 166 (by kernel_rfl)]
                rw [hv 167 (by kernel_rfl)]
                rw [hv 168 (by kernel_rfl)]
                rw [hv 169 (by kernel_rfl)]
                clear hf hs hv hcur
                simp only [getD_toArray, List.getD_cons_succ, List.getD_cons_zero]
                clear T
                have hbn := hide (hbq.out.trans ((hu.below (Nat.le_refl _) fun _ h => h.elim : Below wr.heap.size wr w).mono hbq.out.size))
                have p0n := hu.cell p0.out id
                clear hu
                by_cases hd : 48 ≤ h0.toNat ∧ h0.toNat ≤ 57
                · have hk1 : kindH h0 = 1 := by unfold kindH; rw [if_pos hd]
                  rw [hk1] at p0n
                  have g1 : (48 : Int) ≤ (h0.toNat : Int) := by omega
                  have g2 : (h0.toNat : Int) ≤ 57 := by omega
                  clear hd
                  go_wp2_with fail
                  go_roundw
                  case rel => exact ⟨k + 1, by omega, by go_num, hbn.out⟩
                  case measure => simp [intOf]; omega
                · by_cases hd2 : (97 ≤ h0.toNat ∧ h0.toNat ≤ 122) ∨ h0.toNat = 95
                  · have hk1 : kindH h0 = 0 := by unfold kindH; rw [if_neg hd, if_pos hd2]
                    rw [hk1] at p0n
                    have g1 : (57 : Int) < (h0.toNat : Int) := by omega
                    clear hd
                    rcases hd2 with ⟨hd3, hd4⟩ | hd3
                    · have g2 : (97 : Int) ≤ (h0.toNat : Int) := by omega
                      have g3 : (h0.toNat : Int) ≤ 122 := by omega
                      clear hd3 hd4
                      go_wp2_with fail
                      go_roundw
                      case rel => exact ⟨k + 1, by omega, by go_num, hbn.out⟩
                      case measure => simp [intOf]; omega
                    · have g2 : ((h0.toNat : Int) == 95) = true := by rw [beq_iff_eq]; omega
                      have g3 : (h0.toNat : Int) < 97 := by omega
                      clear hd3
                      go_wp2_with fail
                      go_roundw
                      case rel => exact ⟨k + 1, by omega, by go_num, hbn.out⟩
                      case measure => simp [intOf]; omega
                  · have hk1 : kindH h0 = 2 := by unfold kindH; rw [if_neg hd, if_neg hd2]
                    rw [hk1] at p0n
                    have g1 : ((h0.toNat : Int) == 95) = false := by rw [beq_eq_false_iff_ne]; omega
                    rcases (show (h0.toNat : Int) < 48 ∨ ((57 : Int) < (h0.toNat : Int) ∧ (h0.toNat : Int) < 97) ∨ (122 : Int) < (h0.toNat : Int) by omega) with g2 | ⟨g2, g3⟩ | g2
                    · clear hd hd2
                      go_wp2_with fail
                      go_roundw
                      case rel => exact ⟨k + 1, by omega, by go_num, hbn.out⟩
                      case measure => simp [intOf]; omega
                    · clear hd hd2
                      go_wp2_with fail
                      go_roundw
                      case rel => exact ⟨k + 1, by omega, by go_num, hbn.out⟩
                      case measure => simp [intOf]; omega
                    · clear hd hd2
                      go_wp2_with fail
                      go_roundw
                      case rel => exact ⟨k + 1, by omega, by go_num, hbn.out⟩
                      case measure => simp [intOf]; omega
              · obtain ⟨m, hm⟩ : ∃ m, k = m + 1 := ⟨k - 1, by omega⟩
                obtain ⟨pm, hpm, hlt5⟩ := hprev.out m hm
                replace hpm := hide hpm
                have hkz := hide (show (0 : Int) < (k : Int) by omega)
                have hkm := hide (show ((k : Int) - 1).toNat = m by omega)
                have hml := hide (show (k : Int) - 1 < (l.length : Int) by omega)
                have hm0 := hide (show (1 : Int) ≤ (k : Int) by omega)
                have hws1 := hide (show IntKind.i64.wrap ((k : Int) - 1) = (k : Int) - 1 by simp [IntKind.wrap, IntKind.bits, IntKind.signed]; omega)
                have hlt6 := hide (show (pm : Int) < (pos : Int) by omega)
                replace hm := hide hm
                clear hprev
                refine wp_region_flow (fun _ => False) (factAt [(fun v _ => v = (.slice (some ⟨tb, 0, none⟩) l.length c1)), (fun v _ => v = (.int .i64 k)), (fun v _ => v = (.pointer (some ⟨tb, k * 3, none⟩))), (fun v _ => v = (.pointer (some ⟨tb, k * 3 + 1, none⟩))), (fun v _ => v = (.string (strB W1))), (fun v _ => v = (.string (strB W1))), (fun v _ => v = (.bool false)), (fun v _ => v = (.bool false)), (fun v _ => v = (.slice (some ⟨tb, 0, none⟩) l.length c1)), (fun v _ => v = (.int .i64 k)), (fun v _ => v = (.pointer (some ⟨tb, k * 3, none⟩))), (fun v _ => v = (.pointer (some ⟨tb, k * 3 + 2, none⟩))), (fun v _ => v = (.int .i64 pos)), (fun v _ => v = (.string (strB W1))), (fun v _ => v = (.int .i64 W1.length)), (fun v _ => v = (.int .i64 ((pos : Int) + (W1.length : Int)))), (fun v _ => v = (.string (strB S))), (fun v _ => v = (.int .i64 S.length)), (fun v _ => v = (.bool false)), (fun v _ => v = (.bool false)), (fun v _ => v = (.bool false)), (fun v _ => v = (.string (strB S))), (fun v _ => v = (.slice (some ⟨tb, 0, none⟩) l.length c1)), (fun v _ => v = (.int .i64 k)), (fun v _ => v = (.pointer (some ⟨tb, k * 3, none⟩))), (fun v _ => v = (.pointer (some ⟨tb, k * 3 + 2, none⟩))), (fun v _ => v = (.int .i64 pos)), (fun v _ => v = (.slice (some ⟨tb, 0, none⟩) l.length c1)), (fun v _ => v = (.int .i64 k)), (fun v _ => v = (.pointer (some ⟨tb, k * 3, none⟩))), (fun v _ => v = (.pointer (some ⟨tb, k * 3 + 2, none⟩))), (fun v _ => v = (.int .i64 pos)), (fun v _ => v = (.string (strB W1))), (fun v _ => v = (.int .i64 W1.length)), (fun v _ => v = (.int .i64 ((pos : Int) + (W1.length : Int)))), (fun v _ => v = (.string (strB W1))), (fun v _ => v = (.string (strB W1))), (fun v _ => v = (.bool false)), (fun v _ => v = (.bool false)), (fun v _ => v = (.bool false)), (fun v _ => v = (.int .i64 k)), (fun v _ => v = (.bool true)), (fun v _ => v = (.bool true)), (fun v _ => v = (.slice (some ⟨tb, 0, none⟩) l.length c1)), (fun v _ => v = (.int .i64 k)), (fun v _ => v = (.pointer (some ⟨tb, k * 3, none⟩))), (fun v _ => v = (.pointer (some ⟨tb, k * 3 + 2, none⟩))), (fun v _ => v = (.int .i64 pos)), (fun v _ => v = (.slice (some ⟨tb, 0, none⟩) l.length c1)), (fun v _ => v = (.int .i64 k)), (fun v _ => v = (.int .i64 ((k : Int) - 1))), (fun v _ => v = (.pointer (some ⟨tb, m * 3, none⟩))), (fun v _ => v = (.pointer (some ⟨tb, m * 3 + 2, none⟩))), (fun v _ => v = (.int .i64 pm)), (fun v _ => v = (.bool false)), (fun v _ => v = (.bool false)), (fun v _ => v = (.bool false))]) [] (fun _ => True) (by kernel_rfl) (fkept_at ⟨FKept.eq _, FKept.eq _, FKept.eq _, FKept.eq _, FKept.eq _, FKept.eq _, FKept.eq _, FKept.eq _, FKept.eq _, FKept.eq _, FKept.eq _, FKept.eq _, FKept.eq _, FKept.eq _, FKept.eq _, FKept.eq _, FKept.eq _, FKept.eq _, FKept.eq _, FKept.eq _, FKept.eq _, FKept.eq _, FKept.eq _, FKept.eq _, FKept.eq _, FKept.eq _, FKept.eq _, FKept.eq _, FKept.eq _, FKept.eq _, FKept.eq _, FKept.eq _, FKept.eq _, FKept.eq _, FKept.eq _, FKept.eq _, FKept.eq _, FKept.eq _, FKept.eq _, FKept.eq _, FKept.eq _, FKept.eq _, FKept.eq _, FKept.eq _, FKept.eq _, FKept.eq _, FKept.eq _, FKept.eq _, FKept.eq _, FKept.eq _, FKept.eq _, FKept.eq _, FKept.eq _, FKept.eq _, FKept.eq _, FKept.eq _, FKept.eq _, trivial⟩) (fun _ _ h _ => h) trivial (by kernel_rfl) (by kernel_rfl) (by kernel_rfl) (by kernel_rfl) (Nat.le_of_ble_eq_true (by kernel_rfl)) ?_ ⟨?_, ?_, ?_, ?_, ?_, ?_, ?_, ?_, ?_, ?_, ?_, ?_, ?_, ?_, ?_, ?_, ?_, ?_, ?_, ?_, ?_, ?_, ?_, ?_, ?_, ?_, ?_, ?_, ?_, ?_, ?_, ?_, ?_, ?_, ?_, ?_, ?_, ?_, ?_, ?_, ?_, ?_, ?_, ?_, ?_, ?_, ?_, ?_, ?_, ?_, ?_, ?_, ?_, ?_, ?_, ?_, ?_, trivial⟩ ?_
                · first | exact trivial | assumption
                · intro T w Q hu hs hv hw hd
                  have hx8 : T.getD 8 undef = (.slice (some ⟨tb, 0, none⟩) l.length c1) := hv 8 (by kernel_rfl)
                  refine .inl ⟨wanted_none rfl, ?_⟩
                  clear hd hv hu hs hw
                  go_simp
                  exact ⟨_, rfl, DstOk.some rfl, Below.refl _ _, rfl⟩
                · intro T w Q hu hs hv hw hd
                  have hx11 : T.getD 11 undef = (.int .i64 k) := hv 11 (by kernel_rfl)
                  refine .inl ⟨wanted_none rfl, ?_⟩
                  clear hd hv hu hs hw
                  go_simp
                  exact ⟨_, rfl, DstOk.some rfl, Below.refl _ _, rfl⟩
                · intro T w Q hu hs hv hw hd
                  have hx88 : T.getD 88 undef = (.slice (some ⟨tb, 0, none⟩) l.length c1) := Deps.at 0 hd (by kernel_rfl)
                  have hx89 : T.getD 89 undef = (.int .i64 k) := Deps.at 1 hd (by kernel_rfl)
                  refine .inl ⟨wanted_none rfl, ?_⟩
                  have a0 := hkl.out
                  clear hd hv hu hs hw
                  go_simp
                  exact ⟨_, rfl, DstOk.some rfl, Below.refl _ _, rfl⟩
                · intro T w Q hu hs hv hw hd
                  have hx90 : T.getD 90 undef = (.pointer (some ⟨tb, k * 3, none⟩)) := Deps.at 2 hd (by kernel_rfl)
                  refine .inl ⟨wanted_none rfl, ?_⟩
                  clear hd hv hu hs hw
                  go_simp
                  exact ⟨_, rfl, DstOk.some rfl, Below.refl _ _, rfl⟩
                · intro T w Q hu hs hv hw hd
                  have hx91 : T.getD 91 undef = (.pointer (some ⟨tb, k * 3 + 1, none⟩)) := Deps.at 3 hd (by kernel_rfl)
                  refine .inl ⟨wanted_none rfl, ?_⟩
                  have hq := hu.cell p1.out id
                  clear hd hv hu hs hw
                  go_simp
                  exact ⟨_, rfl, DstOk.some rfl, Below.refl _ _, rfl⟩
                · intro T w Q hu hs hv hw hd
                  have hx12 : T.getD 12 undef = (.string (strB W1)) := hv 12 (by kernel_rfl)
                  refine .inl ⟨wanted_none rfl, ?_⟩
                  clear hd hv hu hs hw
                  go_simp
                  exact ⟨_, rfl, DstOk.some rfl, Below.refl _ _, rfl⟩
                · intro T w Q hu hs hv hw hd
                  have hx92 : T.getD 92 undef = (.string (strB W1)) := Deps.at 4 hd (by kernel_rfl)
                  have hx93 : T.getD 93 undef = (.string (strB W1)) := Deps.at 5 hd (by kernel_rfl)
                  refine .inl ⟨wanted_none rfl, ?_⟩
                  clear hd hv hu hs hw
                  go_simp
                  exact ⟨_, rfl, DstOk.some rfl, Below.refl _ _, rfl⟩
                · intro T w Q hu hs hv hw hd
                  have hx94 : T.getD 94 undef = (.bool false) := Deps.at 6 hd (by kernel_rfl)
                  refine .inl ⟨wanted_none rfl, ?_⟩
                  clear hd hv hu hs hw
                  go_simp
                  exact ⟨_, rfl, DstOk.some rfl, Below.refl _ _, rfl⟩
                · intro T w Q hu hs hv hw hd
                  have hx8 : T.getD 8 undef = (.slice (some ⟨tb, 0, none⟩) l.length c1) := hv 8 (by kernel_rfl)
                  refine .inl ⟨wanted_some rfl (Deps.at 7 hd (by kernel_rfl) : slotOf _ T 7 = .bool false), ?_⟩
                  clear hd hv hu hs hw
                  go_simp
                  exact ⟨_, rfl, DstOk.some rfl, Below.refl _ _, rfl⟩
                · intro T w Q hu hs hv hw hd
                  have hx11 : T.getD 11 undef = (.int .i64 k) := hv 11 (by kernel_rfl)
                  refine .inl ⟨wanted_some rfl (Deps.at 7 hd (by kernel_rfl) : slotOf _ T 7 = .bool false), ?_⟩
                  clear hd hv hu hs hw
                  go_simp
                  exact ⟨_, rfl, DstOk.some rfl, Below.refl _ _, rfl⟩
                · intro T w Q hu hs hv hw hd
                  have hx96 : T.getD 96 undef = (.slice (some ⟨tb, 0, none⟩) l.length c1) := Deps.at 8 hd (by kernel_rfl)
                  have hx97 : T.getD 97 undef = (.int .i64 k) := Deps.at 9 hd (by kernel_rfl)
                  refine .inl ⟨wanted_some rfl (Deps.at 7 hd (by kernel_rfl) : slotOf _ T 7 = .bool false), ?_⟩
                  have a0 := hkl.out
                  clear hd hv hu hs hw
                  go_simp
                  exact ⟨_, rfl, DstOk.some rfl, Below.refl _ _, rfl⟩
                · intro T w Q hu hs hv hw hd
                  have hx98 : T.getD 98 undef = (.pointer (some ⟨tb, k * 3, none⟩)) := Deps.at 10 hd (by kernel_rfl)
                  refine .inl ⟨wanted_some rfl (Deps.at 7 hd (by kernel_rfl) : slotOf _ T 7 = .bool false), ?_⟩
                  clear hd hv hu hs hw
                  go_simp
                  exact ⟨_, rfl, DstOk.some rfl, Below.refl _ _, rfl⟩
                · intro T w Q hu hs hv hw hd
                  have hx99 : T.getD 99 undef = (.pointer (some ⟨tb, k * 3 + 2, none⟩)) := Deps.at 11 hd (by kernel_rfl)
                  refine .inl ⟨wanted_some rfl (Deps.at 7 hd (by kernel_rfl) : slotOf _ T 7 = .bool false), ?_⟩
                  have hq := hu.cell p2.out id
                  clear hd hv hu hs hw
                  go_simp
                  exact ⟨_, rfl, DstOk.some rfl, Below.refl _ _, rfl⟩
                · intro T w Q hu hs hv hw hd
                  have hx12 : T.getD 12 undef = (.string (strB W1)) := hv 12 (by kernel_rfl)
                  refine .inl ⟨wanted_some rfl (Deps.at 7 hd (by kernel_rfl) : slotOf _ T 7 = .bool false), ?_⟩
                  clear hd hv hu hs hw
                  go_simp
                  exact ⟨_, rfl, DstOk.some rfl, Below.refl _ _, rfl⟩
                · intro T w Q hu hs hv hw hd
                  have hx101 : T.getD 101 undef = (.string (strB W1)) := Deps.at 13 hd (by kernel_rfl)
                  refine .inl ⟨wanted_some rfl (Deps.at 7 hd (by kernel_rfl) : slotOf _ T 7 = .bool false), ?_⟩
                  have a0 := hzW.out
                  clear hd hv hu hs hw
                  go_simp
                  exact ⟨_, rfl, DstOk.some rfl, Below.refl _ _, rfl⟩
                · intro T w Q hu hs hv hw hd
                  have hx100 : T.getD 100 undef = (.int .i64 pos) := Deps.at 12 hd (by kernel_rfl)
                  have hx102 : T.getD 102 undef = (.int .i64 W1.length) := Deps.at 14 hd (by kernel_rfl)
                  refine .inl ⟨wanted_some rfl (Deps.at 7 hd (by kernel_rfl) : slotOf _ T 7 = .bool false), ?_⟩
                  clear hd hv hu hs hw
                  go_simp
                  exact ⟨_, rfl, DstOk.some rfl, Below.refl _ _, congrArg (Value.int .i64) hws.out⟩
                · intro T w Q hu hs hv hw hd
                  have hx6 : T.getD 6 undef = (.string (strB S)) := hv 6 (by kernel_rfl)
                  refine .inl ⟨wanted_some rfl (Deps.at 7 hd (by kernel_rfl) : slotOf _ T 7 = .bool false), ?_⟩
                  clear hd hv hu hs hw
                  go_simp
                  exact ⟨_, rfl, DstOk.some rfl, Below.refl _ _, rfl⟩
                · intro T w Q hu hs hv hw hd
                  have hx104 : T.getD 104 undef = (.string (strB S)) := Deps.at 16 hd (by kernel_rfl)
                  refine .inl ⟨wanted_some rfl (Deps.at 7 hd (by kernel_rfl) : slotOf _ T 7 = .bool false), ?_⟩
                  have a0 := hzS.out
                  clear hd hv hu hs hw
                  go_simp
                  exact ⟨_, rfl, DstOk.some rfl, Below.refl _ _, rfl⟩
                · intro T w Q hu hs hv hw hd
                  have hx103 : T.getD 103 undef = (.int .i64 ((pos : Int) + (W1.length : Int))) := Deps.at 15 hd (by kernel_rfl)
                  have hx105 : T.getD 105 undef = (.int .i64 S.length) := Deps.at 17 hd (by kernel_rfl)
                  refine .inl ⟨wanted_some rfl (Deps.at 7 hd (by kernel_rfl) : slotOf _ T 7 = .bool false), ?_⟩
                  have a0 := hr1.out
                  clear hd hv hu hs hw
                  go_simp
                  exact ⟨_, rfl, DstOk.some rfl, Below.refl _ _, by first | rfl | exact congrArg Value.bool (decide_eq_false (by omega))⟩
                · intro T w Q hu hs hv hw hd
                  have hx95 : T.getD 95 undef = (.bool false) := Deps.at 7 hd (by kernel_rfl)
                  have hx106 : T.getD 106 undef = (.bool false) := Deps.at 18 hd (by kernel_rfl)
                  refine .inl ⟨wanted_none rfl, ?_⟩
                  clear hd hv hu hs hw
                  go_simp
                  exact ⟨_, rfl, DstOk.some rfl, Below.refl _ _, rfl⟩
                · intro T w Q hu hs hv hw hd
                  have hx107 : T.getD 107 undef = (.bool false) := Deps.at 19 hd (by kernel_rfl)
                  refine .inl ⟨wanted_none rfl, ?_⟩
                  clear hd hv hu hs hw
                  go_simp
                  exact ⟨_, rfl, DstOk.some rfl, Below.refl _ _, rfl⟩
                · intro T w Q hu hs hv hw hd
                  have hx6 : T.getD 6 undef = (.string (strB S)) := hv 6 (by kernel_rfl)
                  refine .inl ⟨wanted_some rfl (Deps.at 20 hd (by kernel_rfl) : slotOf _ T 20 = .bool false), ?_⟩
                  clear hd hv hu hs hw
                  go_simp
                  exact ⟨_, rfl, DstOk.some rfl, Below.refl _ _, rfl⟩
                · intro T w Q hu hs hv hw hd
                  have hx8 : T.getD 8 undef = (.slice (some ⟨tb, 0, none⟩) l.length c1) := hv 8 (by kernel_rfl)
                  refine .inl ⟨wanted_some rfl (Deps.at 20 hd (by kernel_rfl) : slotOf _ T 20 = .bool false), ?_⟩
                  clear hd hv hu hs hw
                  go_simp
                  exact ⟨_, rfl, DstOk.some rfl, Below.refl _ _, rfl⟩
                · intro T w Q hu hs hv hw hd
                  have hx11 : T.getD 11 undef = (.int .i64 k) := hv 11 (by kernel_rfl)
                  refine .inl ⟨wanted_some rfl (Deps.at 20 hd (by kernel_rfl) : slotOf _ T 20 = .bool false), ?_⟩
                  clear hd hv hu hs hw
                  go_simp
                  exact ⟨_, rfl, DstOk.some rfl, Below.refl _ _, rfl⟩
                · intro T w Q hu hs hv hw hd
                  have hx110 : T.getD 110 undef = (.slice (some ⟨tb, 0, none⟩) l.length c1) := Deps.at 22 hd (by kernel_rfl)
                  have hx111 : T.getD 111 undef = (.int .i64 k) := Deps.at 23 hd (by kernel_rfl)
                  refine .inl ⟨wanted_some rfl (Deps.at 20 hd (by kernel_rfl) : slotOf _ T 20 = .bool false), ?_⟩
                  have a0 := hkl.out
                  clear hd hv hu hs hw
                  go_simp
                  exact ⟨_, rfl, DstOk.some rfl, Below.refl _ _, rfl⟩
                · intro T w Q hu hs hv hw hd
                  have hx112 : T.getD 112 undef = (.pointer (some ⟨tb, k * 3, none⟩)) := Deps.at 24 hd (by kernel_rfl)
                  refine .inl ⟨wanted_some rfl (Deps.at 20 hd (by kernel_rfl) : slotOf _ T 20 = .bool false), ?_⟩
                  clear hd hv hu hs hw
                  go_simp
                  exact ⟨_, rfl, DstOk.some rfl, Below.refl _ _, rfl⟩
                · intro T w Q hu hs hv hw hd
                  have hx113 : T.getD 113 undef = (.pointer (some ⟨tb, k * 3 + 2, none⟩)) := Deps.at 25 hd (by kernel_rfl)
                  refine .inl ⟨wanted_some rfl (Deps.at 20 hd (by kernel_rfl) : slotOf _ T 20 = .bool false), ?_⟩
                  have hq := hu.cell p2.out id
                  clear hd hv hu hs hw
                  go_simp
                  exact ⟨_, rfl, DstOk.some rfl, Below.refl _ _, rfl⟩
                · intro T w Q hu hs hv hw hd
                  have hx8 : T.getD 8 undef = (.slice (some ⟨tb, 0, none⟩) l.length c1) := hv 8 (by kernel_rfl)
                  refine .inl ⟨wanted_some rfl (Deps.at 20 hd (by kernel_rfl) : slotOf _ T 20 = .bool false), ?_⟩
                  clear hd hv hu hs hw
                  go_simp
                  exact ⟨_, rfl, DstOk.some rfl, Below.refl _ _, rfl⟩
                · intro T w Q hu hs hv hw hd
                  have hx11 : T.getD 11 undef = (.int .i64 k) := hv 11 (by kernel_rfl)
                  refine .inl ⟨wanted_some rfl (Deps.at 20 hd (by kernel_rfl) : slotOf _ T 20 = .bool false), ?_⟩
                  clear hd hv hu hs hw
                  go_simp
                  exact ⟨_, rfl, DstOk.some rfl, Below.refl _ _, rfl⟩
                · intro T w Q hu hs hv hw hd
                  have hx115 : T.getD 115 undef = (.slice (some ⟨tb, 0, none⟩) l.length c1) := Deps.at 27 hd (by kernel_rfl)
                  have hx116 : T.getD 116 undef = (.int .i64 k) := Deps.at 28 hd (by kernel_rfl)
                  refine .inl ⟨wanted_some rfl (Deps.at 20 hd (by kernel_rfl) : slotOf _ T 20 = .bool false), ?_⟩
                  have a0 := hkl.out
                  clear hd hv hu hs hw
                  go_simp
                  exact ⟨_, rfl, DstOk.some rfl, Below.refl _ _, rfl⟩
                · intro T w Q hu hs hv hw hd
                  have hx117 : T.getD 117 undef = (.pointer (some ⟨tb, k * 3, none⟩)) := Deps.at 29 hd (by kernel_rfl)
                  refine .inl ⟨wanted_some rfl (Deps.at 20 hd (by kernel_rfl) : slotOf _ T 20 = .bool false), ?_⟩
                  clear hd hv hu hs hw
                  go_simp
                  exact ⟨_, rfl, DstOk.some rfl, Below.refl _ _, rfl⟩
                · intro T w Q hu hs hv hw hd
                  have hx118 : T.getD 118 undef = (.pointer (some ⟨tb, k * 3 + 2, none⟩)) := Deps.at 30 hd (by kernel_rfl)
                  refine .inl ⟨wanted_some rfl (Deps.at 20 hd (by kernel_rfl) : slotOf _ T 20 = .bool false), ?_⟩
                  have hq := hu.cell p2.out id
                  clear hd hv hu hs hw
                  go_simp
                  exact ⟨_, rfl, DstOk.some rfl, Below.refl _ _, rfl⟩
                · intro T w Q hu hs hv hw hd
                  have hx12 : T.getD 12 undef = (.string (strB W1)) := hv 12 (by kernel_rfl)
                  refine .inl ⟨wanted_some rfl (Deps.at 20 hd (by kernel_rfl) : slotOf _ T 20 = .bool false), ?_⟩
                  clear hd hv hu hs hw
                  go_simp
                  exact ⟨_, rfl, DstOk.some rfl, Below.refl _ _, rfl⟩
                · intro T w Q hu hs hv hw hd
                  have hx120 : T.getD 120 undef = (.string (strB W1)) := Deps.at 32 hd (by kernel_rfl)
                  refine .inl ⟨wanted_some rfl (Deps.at 20 hd (by kernel_rfl) : slotOf _ T 20 = .bool false), ?_⟩
                  have a0 := hzW.out
                  clear hd hv hu hs hw
                  go_simp
                  exact ⟨_, rfl, DstOk.some rfl, Below.refl _ _, rfl⟩
                · intro T w Q hu hs hv hw hd
                  have hx119 : T.getD 119 undef = (.int .i64 pos) := Deps.at 31 hd (by kernel_rfl)
                  have hx121 : T.getD 121 undef = (.int .i64 W1.length) := Deps.at 33 hd (by kernel_rfl)
                  refine .inl ⟨wanted_some rfl (Deps.at 20 hd (by kernel_rfl) : slotOf _ T 20 = .bool false), ?_⟩
                  clear hd hv hu hs hw
                  go_simp
                  exact ⟨_, rfl, DstOk.some rfl, Below.refl _ _, congrArg (Value.int .i64) hws.out⟩
                · intro T w Q hu hs hv hw hd
                  have hx109 : T.getD 109 undef = (.string (strB S)) := Deps.at 21 hd (by kernel_rfl)
                  have hx114 : T.getD 114 undef = (.int .i64 pos) := Deps.at 26 hd (by kernel_rfl)
                  have hx122 : T.getD 122 undef = (.int .i64 ((pos : Int) + (W1.length : Int))) := Deps.at 34 hd (by kernel_rfl)
                  refine .inl ⟨wanted_some rfl (Deps.at 20 hd (by kernel_rfl) : slotOf _ T 20 = .bool false), ?_⟩
                  have hC := hcut2.out w
                  clear hd hv hu hs hw
                  go_simp
                  exact ⟨_, rfl, DstOk.some rfl, Below.refl _ _, rfl⟩
                · intro T w Q hu hs hv hw hd
                  have hx12 : T.getD 12 undef = (.string (strB W1)) := hv 12 (by kernel_rfl)
                  refine .inl ⟨wanted_some rfl (Deps.at 20 hd (by kernel_rfl) : slotOf _ T 20 = .bool false), ?_⟩
                  clear hd hv hu hs hw
                  go_simp
                  exact ⟨_, rfl, DstOk.some rfl, Below.refl _ _, rfl⟩
                · intro T w Q hu hs hv hw hd
                  have hx123 : T.getD 123 undef = (.string (strB W1)) := Deps.at 35 hd (by kernel_rfl)
                  have hx124 : T.getD 124 undef = (.string (strB W1)) := Deps.at 36 hd (by kernel_rfl)
                  refine .inl ⟨wanted_some rfl (Deps.at 20 hd (by kernel_rfl) : slotOf _ T 20 = .bool false), ?_⟩
                  clear hd hv hu hs hw
                  go_simp
                  exact ⟨_, rfl, DstOk.some rfl, Below.refl _ _, rfl⟩
                · intro T w Q hu hs hv hw hd
                  have hx108 : T.getD 108 undef = (.bool false) := Deps.at 20 hd (by kernel_rfl)
                  have hx125 : T.getD 125 undef = (.bool false) := Deps.at 37 hd (by kernel_rfl)
                  refine .inl ⟨wanted_none rfl, ?_⟩
                  clear hd hv hu hs hw
                  go_simp
                  exact ⟨_, rfl, DstOk.some rfl, Below.refl _ _, rfl⟩
                · intro T w Q hu hs hv hw hd
                  have hx126 : T.getD 126 undef = (.bool false) := Deps.at 38 hd (by kernel_rfl)
                  refine .inl ⟨wanted_none rfl, ?_⟩
                  clear hd hv hu hs hw
                  go_simp
                  exact ⟨_, rfl, DstOk.some rfl, Below.refl _ _, rfl⟩
                · intro T w Q hu hs hv hw hd
                  have hx11 : T.getD 11 undef = (.int .i64 k) := hv 11 (by kernel_rfl)
                  refine .inl ⟨wanted_some rfl (Deps.at 39 hd (by kernel_rfl) : slotOf _ T 39 = .bool false), ?_⟩
                  clear hd hv hu hs hw
                  go_simp
                  exact ⟨_, rfl, DstOk.some rfl, Below.refl _ _, rfl⟩
                · intro T w Q hu hs hv hw hd
                  have hx128 : T.getD 128 undef = (.int .i64 k) := Deps.at 40 hd (by kernel_rfl)
                  refine .inl ⟨wanted_some rfl (Deps.at 39 hd (by kernel_rfl) : slotOf _ T 39 = .bool false), ?_⟩
                  have a0 := hkz.out
                  clear hd hv hu hs hw
                  go_simp
                  exact ⟨_, rfl, DstOk.some rfl, Below.refl _ _, by first | rfl | exact congrArg Value.bool (decide_eq_true (by omega))⟩
                · intro T w Q hu hs hv hw hd
                  have hx129 : T.getD 129 undef = (.bool true) := Deps.at 41 hd (by kernel_rfl)
                  refine .inl ⟨wanted_some rfl (Deps.at 39 hd (by kernel_rfl) : slotOf _ T 39 = .bool false), ?_⟩
                  clear hd hv hu hs hw
                  go_simp
                  exact ⟨_, rfl, DstOk.some rfl, Below.refl _ _, rfl⟩
                · intro T w Q hu hs hv hw hd
                  have hx8 : T.getD 8 undef = (.slice (some ⟨tb, 0, none⟩) l.length c1) := hv 8 (by kernel_rfl)
                  refine .inl ⟨wanted_some rfl (Deps.at 42 hd (by kernel_rfl) : slotOf _ T 42 = .bool true), ?_⟩
                  clear hd hv hu hs hw
                  go_simp
                  exact ⟨_, rfl, DstOk.some rfl, Below.refl _ _, rfl⟩
                · intro T w Q hu hs hv hw hd
                  have hx11 : T.getD 11 undef = (.int .i64 k) := hv 11 (by kernel_rfl)
                  refine .inl ⟨wanted_some rfl (Deps.at 42 hd (by kernel_rfl) : slotOf _ T 42 = .bool true), ?_⟩
                  clear hd hv hu hs hw
                  go_simp
                  exact ⟨_, rfl, DstOk.some rfl, Below.refl _ _, rfl⟩
                · intro T w Q hu hs hv hw hd
                  have hx131 : T.getD 131 undef = (.slice (some ⟨tb, 0, none⟩) l.length c1) := Deps.at 43 hd (by kernel_rfl)
                  have hx132 : T.getD 132 undef = (.int .i64 k) := Deps.at 44 hd (by kernel_rfl)
                  refine .inl ⟨wanted_some rfl (Deps.at 42 hd (by kernel_rfl) : slotOf _ T 42 = .bool true), ?_⟩
                  have a0 := hkl.out
                  clear hd hv hu hs hw
                  go_simp
                  exact ⟨_, rfl, DstOk.some rfl, Below.refl _ _, rfl⟩
                · intro T w Q hu hs hv hw hd
                  have hx133 : T.getD 133 undef = (.pointer (some ⟨tb, k * 3, none⟩)) := Deps.at 45 hd (by kernel_rfl)
                  refine .inl ⟨wanted_some rfl (Deps.at 42 hd (by kernel_rfl) : slotOf _ T 42 = .bool true), ?_⟩
                  clear hd hv hu hs hw
                  go_simp
                  exact ⟨_, rfl, DstOk.some rfl, Below.refl _ _, rfl⟩
                · intro T w Q hu hs hv hw hd
                  have hx134 : T.getD 134 undef = (.pointer (some ⟨tb, k * 3 + 2, none⟩)) := Deps.at 46 hd (by kernel_rfl)
                  refine .inl ⟨wanted_some rfl (Deps.at 42 hd (by kernel_rfl) : slotOf _ T 42 = .bool true), ?_⟩
                  have hq := hu.cell p2.out id
                  clear hd hv hu hs hw
                  go_simp
                  exact ⟨_, rfl, DstOk.some rfl, Below.refl _ _, rfl⟩
                · intro T w Q hu hs hv hw hd
                  have hx8 : T.getD 8 undef = (.slice (some ⟨tb, 0, none⟩) l.length c1) := hv 8 (by kernel_rfl)
                  refine .inl ⟨wanted_some rfl (Deps.at 42 hd (by kernel_rfl) : slotOf _ T 42 = .bool true), ?_⟩
                  clear hd hv hu hs hw
                  go_simp
                  exact ⟨_, rfl, DstOk.some rfl, Below.refl _ _, rfl⟩
                · intro T w Q hu hs hv hw hd
                  have hx11 : T.getD 11 undef = (.int .i64 k) := hv 11 (by kernel_rfl)
                  refine .inl ⟨wanted_some rfl (Deps.at 42 hd (by kernel_rfl) : slotOf _ T 42 = .bool true), ?_⟩
                  clear hd hv hu hs hw
                  go_simp
                  exact ⟨_, rfl, DstOk.some rfl, Below.refl _ _, rfl⟩
                · intro T w Q hu hs hv hw hd
                  have hx137 : T.getD 137 undef = (.int .i64 k) := Deps.at 49 hd (by kernel_rfl)
                  refine .inl ⟨wanted_some rfl (Deps.at 42 hd (by kernel_rfl) : slotOf _ T 42 = .bool true), ?_⟩
                  clear hd hv hu hs hw
                  go_simp
                  exact ⟨_, rfl, DstOk.some rfl, Below.refl _ _, congrArg (Value.int .i64) hws1.out⟩
                · intro T w Q hu hs hv hw hd
                  have hx136 : T.getD 136 undef = (.slice (some ⟨tb, 0, none⟩) l.length c1) := Deps.at 48 hd (by kernel_rfl)
                  have hx138 : T.getD 138 undef = (.int .i64 ((k : Int) - 1)) := Deps.at 50 hd (by kernel_rfl)
                  refine .inl ⟨wanted_some rfl (Deps.at 42 hd (by kernel_rfl) : slotOf _ T 42 = .bool true), ?_⟩
                  have a0 := hkm.out
                  have a1 := hkl.out
                  have a2 := hml.out
                  have a3 := hm0.out
                  clear hd hv hu hs hw
                  go_simp
                  exact ⟨_, rfl, DstOk.some rfl, Below.refl _ _, rfl⟩
                · intro T w Q hu hs hv hw hd
                  have hx139 : T.getD 139 undef = (.pointer (some ⟨tb, m * 3, none⟩)) := Deps.at 51 hd (by kernel_rfl)
                  refine .inl ⟨wanted_some rfl (Deps.at 42 hd (by kernel_rfl) : slotOf _ T 42 = .bool true), ?_⟩
                  clear hd hv hu hs hw
                  go_simp
                  exact ⟨_, rfl, DstOk.some rfl, Below.refl _ _, rfl⟩
                · intro T w Q hu hs hv hw hd
                  have hx140 : T.getD 140 undef = (.pointer (some ⟨tb, m * 3 + 2, none⟩)) := Deps.at 52 hd (by kernel_rfl)
                  refine .inl ⟨wanted_some rfl (Deps.at 42 hd (by kernel_rfl) : slotOf _ T 42 = .bool true), ?_⟩
                  have hq := hu.cell hpm.out id
                  clear hd hv hu hs hw
                  go_simp
                  exact ⟨_, rfl, DstOk.some rfl, Below.refl _ _, rfl⟩
                · intro T w Q hu hs hv hw hd
                  have hx135 : T.getD 135 undef = (.int .i64 pos) := Deps.at 47 hd (by kernel_rfl)
                  have hx141 : T.getD 141 undef = (.int .i64 pm) := Deps.at 53 hd (by kernel_rfl)
                  refine .inl ⟨wanted_some rfl (Deps.at 42 hd (by kernel_rfl) : slotOf _ T 42 = .bool true), ?_⟩
                  have a0 := hlt6.out
                  clear hd hv hu hs hw
                  go_simp
                  exact ⟨_, rfl, DstOk.some rfl, Below.refl _ _, by first | rfl | exact congrArg Value.bool (decide_eq_false (by omega))⟩
                · intro T w Q hu hs hv hw hd
                  have hx130 : T.getD 130 undef = (.bool true) := Deps.at 42 hd (by kernel_rfl)
                  have hx142 : T.getD 142 undef = (.bool false) := Deps.at 54 hd (by kernel_rfl)
                  refine .inl ⟨wanted_some rfl (Deps.at 39 hd (by kernel_rfl) : slotOf _ T 39 = .bool false), ?_⟩
                  clear hd hv hu hs hw
                  go_simp
                  exact ⟨_, rfl, DstOk.some rfl, Below.refl _ _, rfl⟩
                · intro T w Q hu hs hv hw hd
                  have hx127 : T.getD 127 undef = (.bool false) := Deps.at 39 hd (by kernel_rfl)
                  have hx143 : T.getD 143 undef = (.bool false) := Deps.at 55 hd (by kernel_rfl)
                  refine .inl ⟨wanted_none rfl, ?_⟩
                  clear hd hv hu hs hw
                  go_simp
                  exact ⟨_, rfl, DstOk.some rfl, Below.refl _ _, rfl⟩
                intro T w hu hs hv hf hcur
                have hT : T = #[T.getD 0 undef, T.getD 1 undef, T.getD 2 undef, T.getD 3 undef, T.getD 4 undef, T.getD 5 undef, T.getD 6 undef, T.getD 7 undef, T.getD 8 undef, T.getD 9 undef, T.getD 10 undef, T.getD 11 undef, T.getD 12 undef, T.getD 13 undef, T.getD 14 undef, T.getD 15 undef, T.getD 16 undef, T.getD 17 undef, T.getD 18 undef, T.getD 19 undef, T.getD 20 undef, T.getD 21 undef, T.getD 22 undef, T.getD 23 undef, T.getD 24 undef, T.getD 25 undef, T.getD 26 undef, T.getD 27 undef, T.getD 28 undef, T.getD 29 undef, T.getD 30 undef, T.getD 31 undef, T.getD 32 undef, T.getD 33 undef, T.getD 34 undef, T.getD 35 undef, T.getD 36 undef, T.getD 37 undef, T.getD 38 undef, T.getD 39 undef, T.getD 40 undef, T.getD 41 undef, T.getD 42 undef, T.getD 43 undef, T.getD 44 undef, T.getD 45 undef, T.getD 46 undef, T.getD 47 undef, T.getD 48 undef, T.getD 49 undef, T.getD 50 undef, T.getD 51 undef, T.getD 52 undef, T.getD 53 undef, T.getD 54 undef, T.getD 55 undef, T.getD 56 undef, T.getD 57 undef, T.getD 58 undef, T.getD 59 undef, T.getD 60 undef, T.getD 61 undef, T.getD 62 undef, T.getD 63 undef, T.getD 64 undef, T.getD 65 undef, T.getD 66 undef, T.getD 67 undef, T.getD 68 undef, T.getD 69 undef, T.getD 70 undef, T.getD 71 undef, T.getD 72 undef, T.getD 73 undef, T.getD 74 undef, T.getD 75 undef, T.getD 76 undef, T.getD 77 undef, T.getD 78 undef, T.getD 79 undef, T.getD 80 undef, T.getD 81 undef, T.getD 82 undef, T.getD 83 undef, T.getD 84 undef, T.getD 85 undef, T.getD 86 undef, T.getD 87 undef, T.getD 88 undef, T.getD 89 undef, T.getD 90 undef, T.getD 91 undef, T.getD 92 undef, T.getD 93 undef, T.getD 94 undef, T.getD 95 undef, T.getD 96 undef, T.getD 97 undef, T.getD 98 undef, T.getD 99 undef, T.getD 100 undef, T.getD 101 undef, T.getD 102 undef, T.getD 103 undef, T.getD 104 undef, T.getD 105 undef, T.getD 106 undef, T.getD 107 undef, T.getD 108 undef, T.getD 109 undef, T.getD 110 undef, T.getD 111 undef, T.getD 112 undef, T.getD 113 undef, T.getD 114 undef, T.getD 115 undef, T.getD 116 undef, T.getD 117 undef, T.getD 118 undef, T.getD 119 undef, T.getD 120 undef, T.getD 121 undef, T.getD 122 undef, T.getD 123 undef, T.getD 124 undef, T.getD 125 undef, T.getD 126 undef, T.getD 127 undef, T.getD 128 undef, T.getD 129 undef, T.getD 130 undef, T.getD 131 undef, T.getD 132 undef, T.getD 133 undef, T.getD 134 undef, T.getD 135 undef, T.getD 136 undef, T.getD 137 undef, T.getD 138 undef, T.getD 139 undef, T.getD 140 undef, T.getD 141 undef, T.getD 142 undef, T.getD 143 undef, T.getD 144 undef, T.getD 145 undef, T.getD 146 undef, T.getD 147 undef, T.getD 148 undef, T.getD 149 undef, T.getD 150 undef, T.getD 151 undef, T.getD 152 undef, T.getD 153 undef, T.getD 154 undef, T.getD 155 undef, T.getD 156 undef, T.getD 157 undef, T.getD 158 undef, T.getD 159 undef, T.getD 160 undef, T.getD 161 undef, T.getD 162 undef, T.getD 163 undef, T.getD 164 undef, T.getD 165 undef, T.getD 166 undef, T.getD 167 undef, T.getD 168 undef, T.getD 169 undef] := expl hs
                rw [hT]
                clear hT
                rw [show T.getD 0 undef = (.slice (some ⟨bl, ol, none⟩) l.length c0) from hv 0 (by kernel_rfl)]
                rw [show T.getD 1 undef = (.slice A2 b.length c2) from hv 1 (by kernel_rfl)]
                rw [hv 2 (by kernel_rfl)]
                rw [hv 3 (by kernel_rfl)]
                rw [hv 4 (by kernel_rfl)]
                rw [show T.getD 5 undef = (.slice (some ⟨wb, 0, none⟩) 21 21) from hv 5 (by kernel_rfl)]
                rw [show T.getD 6 undef = (.string (strB S)) from hv 6 (by kernel_rfl)]
                rw [hv 7 (by kernel_rfl)]
                rw [show T.getD 8 undef = (.slice (some ⟨tb, 0, none⟩) l.length c1) from hv 8 (by kernel_rfl)]
                rw [hv 9 (by kernel_rfl)]
                rw [hv 10 (by kernel_rfl)]
                rw [show T.getD 11 undef = (.int .i64 k) from hv 11 (by kernel_rfl)]
                rw [show T.getD 12 undef = (.string (strB W1)) from hv 12 (by kernel_rfl)]
                rw [hv 13 (by kernel_rfl)]
                rw [hv 14 (by kernel_rfl)]
                rw [hv 15 (by kernel_rfl)]
                rw [hv 16 (by kernel_rfl)]
                rw [hv 17 (by kernel_rfl)]
                rw [hv 18 (by kernel_rfl)]
                rw [hv 19 (by kernel_rfl)]
                rw [hv 20 (by kernel_rfl)]
                rw [hv 21 (by kernel_rfl)]
                rw [hv 22 (by kernel_rfl)]
                rw [hv 23 (by kernel_rfl)]
                rw [hv 24 (by kernel_rfl)]
                rw [hv 25 (by kernel_rfl)]
                rw [hv 26 (by kernel_rfl)]
                rw [hv 27 (by kernel_rfl)]
                rw [hv 28 (by kernel_rfl)]
                rw [hv 29 (by kernel_rfl)]
                rw [hv 30 (by kernel_rfl)]
                rw [hv 31 (by kernel_rfl)]
                rw [hv 32 (by kernel_rfl)]
                rw [hv 33 (by kernel_rfl)]
                rw [hv 34 (by kernel_rfl)]
                rw [hv 35 (by kernel_rfl)]
                rw [hv 36 (by kernel_rfl)]
                rw [hv 37 (by kernel_rfl)]
                rw [hv 38 (by kernel_rfl)]
                rw [hv 39 (by kernel_rfl)]
                rw [hv 40 (by kernel_rfl)]
                rw [hv 41 (by kernel_rfl)]
                rw [hv 42 (by kernel_rfl)]
                rw [hv 43 (by kernel_rfl)]
                rw [hv 44 (by kernel_rfl)]
                rw [hv 45 (by kernel_rfl)]
                rw [hv 46 (by kernel_rfl)]
                rw [hv 47 (by kernel_rfl)]
                rw [hv 48 (by kernel_rfl)]
                rw [hv 49 (by kernel_rfl)]
                rw [hv 50 (by kernel_rfl)]
                rw [hv 51 (by kernel_rfl)]
                rw [hv 52 (by kernel_rfl)]
                rw [hv 53 (by kernel_rfl)]
                rw [hv 54 (by kernel_rfl)]
                rw [hv 55 (by kernel_rfl)]
                rw [hv 56 (by kernel_rfl)]
                rw [hv 57 (by kernel_rfl)]
                rw [hv 58 (by kernel_rfl)]
                rw [hv 59 (by kernel_rfl)]
                rw [hv 60 (by kernel_rfl)]
                rw [hv 61 (by kernel_rfl)]
                rw [hv 62 (by kernel_rfl)]
                rw [hv 63 (by kernel_rfl)]
                rw [hv 64 (by kernel_rfl)]
                rw [hv 65 (by kernel_rfl)]
                rw [hv 66 (by kernel_rfl)]
                rw [hv 67 (by kernel_rfl)]
                rw [hv 68 (by kernel_rfl)]
                rw [hv 69 (by kernel_rfl)]
                rw [hv 70 (by kernel_rfl)]
                rw [hv 71 (by kernel_rfl)]
                rw [hv 72 (by kernel_rfl)]
                rw [hv 73 (by kernel_rfl)]
                rw [hv 74 (by kernel_rfl)]
                rw [hv 75 (by kernel_rfl)]
                rw [hv 76 (by kernel_rfl)]
                rw [hv 77 (by kernel_rfl)]
                rw [hv 78 (by kernel_rfl)]
                rw [hv 79 (by kernel_rfl)]
                rw [hv 80 (by kernel_rfl)]
                rw [hv 81 (by kernel_rfl)]
                rw [hv 82 (by kernel_rfl)]
                rw [hv 83 (by kernel_rfl)]
                rw [hv 84 (by kernel_rfl)]
                rw [hv 85 (by kernel_rfl)]
                rw [hv 86 (by kernel_rfl)]
                rw [hv 87 (by kernel_rfl)]
                rw [show T.getD 88 undef = (.slice (some ⟨tb, 0, none⟩) l.length c1) from hf 0 (by decide)]
                rw [show T.getD 89 undef = (.int .i64 k) from hf 1 (by decide)]
                rw [show T.getD 90 undef = (.pointer (some ⟨tb, k * 3, none⟩)) from hf 2 (by decide)]
                rw [show T.getD 91 undef = (.pointer (some ⟨tb, k * 3 + 1, none⟩)) from hf 3 (by decide)]
                rw [show T.getD 92 undef = (.string (strB W1)) from hf 4 (by decide)]
                rw [show T.getD 93 undef = (.string (strB W1)) from hf 5 (by decide)]
                rw [show T.getD 94 undef = (.bool false) from hf 6 (by decide)]
                rw [show T.getD 95 undef = (.bool false) from hf 7 (by decide)]
                rw [show T.getD 96 undef = (.slice (some ⟨tb, 0, none⟩) l.length c1) from hf 8 (by decide)]
                rw [show T.getD 97 undef = (.int .i64 k) from hf 9 (by decide)]
                rw [show T.getD 98 undef = (.pointer (some ⟨tb, k * 3, none⟩)) from hf 10 (by decide)]
                rw [show T.getD 99 undef = (.pointer (some ⟨tb, k * 3 + 2, none⟩)) from hf 11 (by decide)]
                rw [show T.getD 100 undef = (.int .i64 pos) from hf 12 (by decide)]
                rw [show T.getD 101 undef = (.string (strB W1)) from hf 13 (by decide)]
                rw [show T.getD 102 undef = (.int .i64 W1.length) from hf 14 (by decide)]
                rw [show T.getD 103 undef = (.int .i64 ((pos : Int) + (W1.length : Int))) from hf 15 (by decide)]
                rw [show T.getD 104 undef = (.string (strB S)) from hf 16 (by decide)]
                rw [show T.getD 105 undef = (.int .i64 S.length) from hf 17 (by decide)]
                rw [show T.getD 106 undef = (.bool false) from hf 18 (by decide)]
                rw [show T.getD 107 undef = (.bool false) from hf 19 (by decide)]
                rw [show T.getD 108 undef = (.bool false) from hf 20 (by decide)]
                rw [show T.getD 109 undef = (.string (strB S)) from hf 21 (by decide)]
                rw [show T.getD 110 undef = (.slice (some ⟨tb, 0, none⟩) l.length c1) from hf 22 (by decide)]
                rw [show T.getD 111 undef = (.int .i64 k) from hf 23 (by decide)]
                rw [show T.getD 112 undef = (.pointer (some ⟨tb, k * 3, none⟩)) from hf 24 (by decide)]
                rw [show T.getD 113 undef = (.pointer (some ⟨tb, k * 3 + 2, none⟩)) from hf 25 (by decide)]
                rw [show T.getD 114 undef = (.int .i64 pos) from hf 26 (by decide)]
                rw [show T.getD 115 undef = (.slice (some ⟨tb, 0, none⟩) l.length c1) from hf 27 (by decide)]
                rw [show T.getD 116 undef = (.int .i64 k) from hf 28 (by decide)]
                rw [show T.getD 117 undef = (.pointer (some ⟨tb, k * 3, none⟩)) from hf 29 (by decide)]
                rw [show T.getD 118 undef = (.pointer (some ⟨tb, k * 3 + 2, none⟩)) from hf 30 (by decide)]
                rw [show T.getD 119 undef = (.int .i64 pos) from hf 31 (by decide)]
                rw [show T.getD 120 undef = (.string (strB W1)) from hf 32 (by decide)]
                rw [show T.getD 121 undef = (.int .i64 W1.length) from hf 33 (by decide)]
                rw [show T.getD 122 undef = (.int .i64 ((pos : Int) + (W1.length : Int))) from hf 34 (by decide)]
                rw [show T.getD 123 undef = (.string (strB W1)) from hf 35 (by decide)]
                rw [show T.getD 124 undef = (.string (strB W1)) from hf 36 (by decide)]
                rw [show T.getD 125 undef = (.bool false) from hf 37 (by decide)]
                rw [show T.getD 126 undef = (.bool false) from hf 38 (by decide)]
                rw [show T.getD 127 undef = (.bool false) from hf 39 (by decide)]
                rw [show T.getD 128 undef = (.int .i64 k) from hf 40 (by decide)]
                rw [show T.getD 129 undef = (.bool true) from hf 41 (by decide)]
                rw [show T.getD 130 undef = (.bool true) from hf 42 (by decide)]
                rw [show T.getD 131 undef = (.slice (some ⟨tb, 0, none⟩) l.length c1) from hf 43 (by decide)]
                rw [show T.getD 132 undef = (.int .i64 k) from hf 44 (by decide)]
                rw [show T.getD 133 undef = (.pointer (some ⟨tb, k * 3, none⟩)) from hf 45 (by decide)]
                rw [show T.getD 134 undef = (.pointer (some ⟨tb, k * 3 + 2, none⟩)) from hf 46 (by decide)]
                rw [show T.getD 135 undef = (.int .i64 pos) from hf 47 (by decide)]
                rw [show T.getD 136 undef = (.slice (some ⟨tb, 0, none⟩) l.length c1) from hf 48 (by decide)]
                rw [show T.getD 137 undef = (.int .i64 k) from hf 49 (by decide)]
                rw [show T.getD 138 undef = (.int .i64 ((k : Int) - 1)) from hf 50 (by decide)]
                rw [show T.getD 139 undef = (.pointer (some ⟨tb, m * 3, none⟩)) from hf 51 (by decide)]
                rw [show T.getD 140 undef = (.pointer (some ⟨tb, m * 3 + 2, none⟩)) from hf 52 (by decide)]
                rw [show T.getD 141 undef = (.int .i64 pm) from hf 53 (by decide)]
                rw [show T.getD 142 undef = (.bool false) from hf 54 (by decide)]
                rw [show T.getD 143 undef = (.bool false) from hf 55 (by decide)]
                rw [show T.getD 144 undef = (.bool false) from hf 56 (by decide)]
                rw [hv 145 (by kernel_rfl)]
                rw [hv 146 (by kernel_rfl)]
                rw [hv 147 (by kernel_rfl)]
                rw [hv 148 (by kernel_rfl)]
                rw [hv 149 (by kernel_rfl)]
                rw [hv 150 (by kernel_rfl)]
                rw [hv 151 (by kernel_rfl)]
                rw [hv 152 (by kernel_rfl)]
                rw [hv 153 (by kernel_rfl)]
                rw [hv 154 (by kernel_rfl)]
                rw [hv 155 (by kernel_rfl)]
                rw [hv 156 (by kernel_rfl)]
                rw [hv 157 (by kernel_rfl)]
                rw [hv 158 (by kernel_rfl)]
                rw [hv 159 (by kernel_rfl)]
                rw [hv 160 (by kernel_rfl)]
                rw [hv 161 (by kernel_rfl)]
                rw [hv 162 (by kernel_rfl)]
                rw [hv 163 (by kernel_rfl)]
                rw [hv 164 (by kernel_rfl)]
                rw [hv 165 (by kernel_rfl)]
                rw [hv 166 (by kernel_rfl)]
                rw [hv 167 (by kernel_rfl)]
                rw [hv 168 (by kernel_rfl)]
                rw [hv 169 (by kernel_rfl)]
                clear hf hs hv hcur
                simp only [getD_toArray, List.getD_cons_succ, List.getD_cons_zero]
                clear T
                have hbn := hide (hbq.out.trans ((hu.below (Nat.le_refl _) fun _ h => h.elim : Below wr.heap.size wr w).mono hbq.out.size))
                have p0n := hu.cell p0.out id
                clear hu
                by_cases hd : 48 ≤ h0.toNat ∧ h0.toNat ≤ 57
                · have hk1 : kindH h0 = 1 := by unfold kindH; rw [if_pos hd]
                  rw [hk1] at p0n
                  have g1 : (48 : Int) ≤ (h0.toNat : Int) := by omega
                  have g2 : (h0.toNat : Int) ≤ 57 := by omega
                  clear hd
                  go_wp2_with fail
                  go_roundw
                  case rel => exact ⟨k + 1, by omega, by go_num, hbn.out⟩
                  case measure => simp [intOf]; omega
                · by_cases hd2 : (97 ≤ h0.toNat ∧ h0.toNat ≤ 122) ∨ h0.toNat = 95
                  · have hk1 : kindH h0 = 0 := by unfold kindH; rw [if_neg hd, if_pos hd2]
                    rw [hk1] at p0n
                    have g1 : (57 : Int) < (h0.toNat : Int) := by omega
                    clear hd
                    rcases hd2 with ⟨hd3, hd4⟩ | hd3
                    · have g2 : (97 : Int) ≤ (h0.toNat : Int) := by omega
                      have g3 : (h0.toNat : Int) ≤ 122 := by omega
                      clear hd3 hd4
                      go_wp2_with fail
                      go_roundw
                      case rel => exact ⟨k + 1, by omega, by go_num, hbn.out⟩
                      case measure => simp [intOf]; omega
                    · have g2 : ((h0.toNat : Int) == 95) = true := by rw [beq_iff_eq]; omega
                      have g3 : (h0.toNat : Int) < 97 := by omega
                      clear hd3
                      go_wp2_with fail
                      go_roundw
                      case rel => exact ⟨k + 1, by omega, by go_num, hbn.out⟩
                      case measure => simp [intOf]; omega
                  · have hk1 : kindH h0 = 2 := by unfold kindH; rw [if_neg hd, if_neg hd2]
                    rw [hk1] at p0n
                    have g1 : ((h0.toNat : Int) == 95) = false := by rw [beq_eq_false_iff_ne]; omega
                    rcases (show (h0.toNat : Int) < 48 ∨ ((57 : Int) < (h0.toNat : Int) ∧ (h0.toNat : Int) < 97) ∨ (122 : Int) < (h0.toNat : Int) by omega) with g2 | ⟨g2, g3⟩ | g2
                    · clear hd hd2
                      go_wp2_with fail
                      go_roundw
                      case rel => exact ⟨k + 1, by omega, by go_num, hbn.out⟩
                      case measure => simp [intOf]; omega
                    · clear hd hd2
                      go_wp2_with fail
                      go_roundw
                      case rel => exact ⟨k + 1, by omega, by go_num, hbn.out⟩
                      case measure => simp [intOf]; omega
                    · clear hd hd2
                      go_wp2_with fail
                      go_roundw
                      case rel => exact ⟨k + 1, by omega, by go_num, hbn.out⟩
                      case measure => simp [intOf]; omega
            · obtain rfl : k = l.length := by omega
              have hlt2' : ¬ (l.length : Int) < (l.length : Int) := by omega
              go_wp2_with fail
              go_ret
              exact ⟨rfl, hbW.out⟩
end Go.Proofs.YtibbaofmdechcaaDoor
