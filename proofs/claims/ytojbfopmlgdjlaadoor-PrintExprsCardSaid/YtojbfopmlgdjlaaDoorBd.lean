/- A printer in memory: its text so far, its depth, whether its line has begun; strings.Builder's methods where the builder is a part of it. -/
import Derived.Test.YtojbfopmlgdjlaaDoorOwn
import Derived.Test.YtojbfopmlgdjlaaDoorGLxA
import Derived.Shelf.Abstract
import Derived.Lib.UnsafeStr
import Derived.Lib.Builder
import Derived.Laws.Externs
namespace Go.Proofs.YtojbfopmlgdjlaaDoor
open Go Go.RowKit

/-- The printer in block b (from B on): its buffer v holds the text t. -/
structure Prn (w : World) (B b : Nat) (v : Value) (t : List UInt8) (d : Nat) (g : Bool) : Prop where
  hB : B ≤ b
  cells : ∃ p, w.heap[b]? = some (.cells #[p, v, .int .i64 d, .bool g] 61 (0, 0)) ∧ (p = .pointer none ∨ p = .pointer (some ⟨b, 0, none⟩))
  row : RowB w B v t
/-- What the printer's methods may turn: its own block, its buffer's; where its buffer comes to lie. -/
structure PrM (b : Nat) (v : Value) (w : World) (v' : Value) (w' : World) : Prop where
  upd : Upd (fun k => k = b ∨ v.ownBlock = some k) w w'
  own : ∀ k, v'.ownBlock = some k → v.ownBlock = some k ∨ w.heap.size ≤ k
section
variable {w w' w'' : World} {B b d : Nat} {v v' v'' : Value} {t : List UInt8} {g : Bool}
theorem Prn.lt (h : Prn w B b v t d g) : b < w.heap.size := by
  obtain ⟨p, h1, -⟩ := h.cells
  exact (Array.getElem?_eq_some_iff.1 h1).1
theorem Prn.ne (h : Prn w B b v t d g) : v.ownBlock ≠ some b := fun e => by
  obtain ⟨p, h1, -⟩ := h.cells
  exact absurd (own_type h.row e h1) (by decide)
theorem Prn.own (h : Prn w B b v t d g) : ∀ k, v.ownBlock = some k → B ≤ k ∧ k < w.heap.size := fun k hk => World.ownsRow.lt h.row k hk
theorem Prn.upd {F : Nat → Prop} (h : Prn w B b v t d g) (hu : Upd F w w') (hF : ¬ F b) (hv : ∀ k, v.ownBlock = some k → ¬ F k) : Prn w' B b v t d g := by
  obtain ⟨p, h1, h2⟩ := h.cells
  exact ⟨h.hB, ⟨p, hu.heap h1 hF, h2⟩, hu.own h.row hv⟩
theorem Prn.below (h : Prn w B b v t d g) (hb : Below w.heap.size w w') : Prn w' B b v t d g := h.upd (F := fun _ => False) (.of_below _ hb) id fun _ _ => id
theorem Prn.alloc (h : Prn w B b v t d g) (o : Obj) : Prn (w.alloc o) B b v t d g := h.upd (F := fun _ => False) (.alloc _ _ _) id fun _ _ => id
theorem PrM.refl (b : Nat) (v : Value) (w : World) : PrM b v w v w := ⟨.refl _ _, fun _ h => .inl h⟩
theorem PrM.trans (h : PrM b v w v' w') (h' : PrM b v' w' v'' w'') : PrM b v w v'' w'' :=
  ⟨h.upd.trans h'.upd fun k hk e => by
    rcases e with rfl | e
    · exact .inl rfl
    · rcases h.own k e with e | e
      · exact .inr e
      · omega,
   fun k hk => by
    rcases h'.own k hk with e | e
    · exact h.own k e
    · exact .inr (Nat.le_trans h.upd.size e)⟩
theorem PrM.quiet (h : PrM b v w v' w') (hb : Below w'.heap.size w' w'') : PrM b v w v' w'' := ⟨h.upd.then (.of_below _ hb), h.own⟩
theorem PrM.of_below (b : Nat) (v : Value) (hb : Below w.heap.size w w') : PrM b v w v w' := (PrM.refl b v w).quiet hb
theorem PrM.set (h : PrM b v w v' w') (o : Nat) (u : Value) : PrM b v w v' (w'.setCell ⟨b, o, none⟩ u) :=
  ⟨h.upd.then (.set _ (.inl rfl) _), h.own⟩
theorem PrM.below {B : Nat} (h : PrM b v w v' w') (hp : Prn w B b v t d g) (hBw : B ≤ w.heap.size) : Below B w w' :=
  h.upd.below hBw fun k hk => by
    rcases hk with rfl | e
    · exact hp.hB
    · exact (hp.own k e).1
end
theorem lies_bd : liesAt Tryd.prog Tryd.prog.depth 61 (4 / Tryd.prog.cellsOf 61) 0 57 1 = true := by kernel_rfl
theorem size_bd : (Tryd.prog.info? 57).map (·.size) = some 2 := by kernel_rfl
set_option maxRecDepth 100000 in
theorem copyCheck_any (w : World) (B b d : Nat) (v : Value) (t : List UInt8) (g : Bool) (h : Prn w B b v t d g) :
    Calls Tryd.prog 71 #[.pointer (some ⟨b, 0, none⟩)] w fun e w' => e = .returned (.tuple #[]) ∧ PrM b v w v w' ∧ Prn w' B b v t d g ∧ w.heap.size = w'.heap.size := by
  obtain ⟨j, hj, hjs⟩ := Option.map_eq_some_iff.1 size_bd
  obtain ⟨p, h1, hp⟩ := h.cells
  have hsh : w.shape? b = some (61, 4) := by simp [World.shape?, h1]
  have c0 := cell_at h1 0
  have f0 := frozen_at h1 0
  simp at c0
  rcases hp with rfl | rfl
  · have h2 : Prn (w.setCell ⟨b, 0, none⟩ (.pointer (some ⟨b, 0, none⟩))) B b v t d g :=
      ⟨h.hB, ⟨_, heap_set h1 0 _, .inr rfl⟩, (Upd.set w (F := fun k => k = b) (a := ⟨b, 0, none⟩) rfl _).own h.row fun k hk e => h.ne (by rw [← e]; exact hk)⟩
    replace h2 := hide h2
    clear h h1
    go_enter Tryd.func71, Tryd.ntmps71
    go_wp2
    rw [Lib.run_to_unsafe w ⟨b, 0, none⟩ Tryd.underlying55 Tryd.underlying125 hj (by rw [hjs]; decide) hsh (Nat.zero_lt_succ 3)]
    simp only [Result.andThen]
    rw [Oper.upon_value]
    go_wp2
    rw [run_callFunc_extern Tryd.func85 (by kernel_rfl) (by kernel_rfl) (by kernel_rfl) (e := Extern.AbiNoEscape.same) (by kernel_rfl)]
    rw [Lib.run_noEscape]
    simp only [Result.andThen]
    rw [Oper.upon_value]
    go_wp2
    rw [Lib.run_from_unsafe w ⟨b, 0, none⟩ Tryd.underlying125 Tryd.underlying55 hj hsh lies_bd]
    simp only [Result.andThen]
    rw [Oper.upon_value]
    go_wp2
    go_end0
    exact ⟨rfl, (PrM.refl b v w).set 0 _, h2.out, by simp [World.setCell]⟩
  · replace h := hide h
    clear h1
    go_enter Tryd.func71, Tryd.ntmps71
    go_wp2
    rw [Lib.run_neq_ptr_same w _ Tryd.underlying55 hj]
    go_wp2
    go_end0
    exact ⟨rfl, .refl _ _ _, h.out, rfl⟩
set_option maxRecDepth 100000 in
theorem WriteString_any (s : List UInt8) (w : World) (B b d : Nat) (v : Value) (t : List UInt8) (g : Bool) (h : Prn w B b v t d g) (hB : B ≤ w.heap.size) (hl : t.length + s.length ≤ 70368744177664) :
    Calls Tryd.prog 59 #[.pointer (some ⟨b, 0, none⟩), .string (strB s)] w fun e w' => e = .returned (.tuple #[.int .i64 s.length, .nilIface]) ∧ ∃ v', PrM b v w v' w' ∧ Prn w' B b v' (t ++ s) d g := by
  have hC := hide (copyCheck_any w B b d v t g h)
  have hsz : (strB s).size = s.length := rfl
  clear h
  go_enter Tryd.func59, Tryd.ntmps59
  go_wp2_with fail
  refine hC.out.mono ?_
  rintro e w1 ⟨rfl, hm, h1, hz⟩
  obtain ⟨p, hh, hp⟩ := h1.cells
  have c1 := cell_at hh 1
  simp at c1
  have hrow := h1.row
  have hne := h1.ne
  have hBb := h1.hB
  have hlt := h1.lt
  replace hm := hide hm
  replace h1 := hide h1
  go_wp2_with (at_builtin; refine wp_bytes_string rfl _ _ rfl B v t rfl hrow (strB s) rfl ?c1 ?c2 ?_)
  case c1 => rw [hsz]; exact hl
  case c2 => omega
  intro v' w2 hrow' hgr hown
  have hu2 := Upd.grown (F := fun k => v.ownBlock = some k) hgr fun k hk => hk
  have hh2 := hu2.heap hh (fun e => hne e)
  have f1 := frozen_at hh2 1
  have d1 := cell_at hh2 1
  simp at d1
  have hm3 : PrM b v w v' (w2.setCell ⟨b, 1, none⟩ v') := (hm.out.trans ⟨hu2.mono fun k _ e => .inr e, hown⟩).set 1 _
  have h3 : Prn (w2.setCell ⟨b, 1, none⟩ v') B b v' (t ++ s) d g :=
    ⟨hBb, ⟨p, heap_set hh2 1 _, hp⟩, (Upd.set w2 (F := fun k => k = b) (a := ⟨b, 1, none⟩) rfl _).own hrow' fun k hk e => by
      subst e
      rcases hown k hk with e | e
      · exact hne e
      · omega⟩
  obtain ⟨A, n, c, rfl⟩ := RowB.slice hrow'
  replace hm3 := hide hm3
  replace h3 := hide h3
  clear hu2 hgr hown hrow' hh2 hh hrow
  go_wp2_with fail
  go_ret2
  exact ⟨rfl, _, hm3.out, h3.out⟩
set_option maxRecDepth 100000 in
set_option maxHeartbeats 800000 in
theorem WriteByte_any (c : UInt8) (w : World) (B b d : Nat) (v : Value) (t : List UInt8) (g : Bool) (h : Prn w B b v t d g) (hB : B ≤ w.heap.size) (hl : t.length + 1 ≤ 70368744177664) :
    Calls Tryd.prog 61 #[.pointer (some ⟨b, 0, none⟩), .int .u8 c.toNat] w fun e w' => e = .returned .nilIface ∧ ∃ v', PrM b v w v' w' ∧ Prn w' B b v' (t ++ [c]) d g := by
  have hC := hide (copyCheck_any w B b d v t g h)
  clear h
  generalize hcn : (c.toNat : Int) = cn
  go_enter Tryd.func61, Tryd.ntmps61
  go_wp2_with fail
  refine hC.out.mono ?_
  rintro e w1 ⟨rfl, hm, h1, hz⟩
  have hlt := h1.lt
  have h2 := h1.alloc (.cells #[.int .u8 cn] 5)
  obtain ⟨p, hh, hp⟩ := h2.cells
  obtain ⟨p', hh', hp'⟩ := h1.cells
  have c1' := cell_at hh' 1
  have c1 := cell_at hh 1
  simp at c1 c1'
  have hrow := h2.row
  have hne := h2.ne
  have hBb := h2.hB
  have hlt2 := h2.lt
  have hnew := heap_new w1 (.cells #[.int .u8 cn] 5)
  replace hm := hide (hm.quiet ((Below.refl _ w1).alloc (Nat.le_refl _) (.cells #[.int .u8 cn] 5)))
  clear h1 h2
  have hgs : w1.heap.size + 1 = (w1.alloc (.cells #[.int .u8 cn] 5)).heap.size := (Array.size_push ..).symm
  go_wp2_with (at_builtin; refine wp_bytes rfl _ _ rfl B v t rfl hrow ⟨w1.heap.size, 0, none⟩ 1 1 [c] rfl rfl ?c1 ?c2 ?c3 ?_)
  case c1 =>
    intro j u hj
    match j, hj with
    | 0, hj =>
      simp [bv] at hj
      rw [hcn] at hj
      subst hj
      show World.cell? _ ⟨_, 0 + 0, none⟩ = _
      rw [cell_at hnew 0]; rfl
  case c2 => exact hl
  case c3 => omega
  intro v' w2 hrow' hgr hown
  have hu2 := Upd.grown (F := fun k => v.ownBlock = some k) hgr fun k hk => hk
  have hh2 := hu2.heap hh (fun e => hne e)
  have f1 := frozen_at hh2 1
  have d1 := cell_at hh2 1
  simp at d1
  have hm3 : PrM b v w v' (w2.setCell ⟨b, 1, none⟩ v') := (hm.out.trans ⟨hu2.mono fun k _ e => .inr e, hown⟩).set 1 _
  have h3 : Prn (w2.setCell ⟨b, 1, none⟩ v') B b v' (t ++ [c]) d g :=
    ⟨hBb, ⟨p, heap_set hh2 1 _, hp⟩, (Upd.set w2 (F := fun k => k = b) (a := ⟨b, 1, none⟩) rfl _).own hrow' fun k hk e => by
      subst e
      rcases hown k hk with e | e
      · exact hne e
      · omega⟩
  obtain ⟨A, n, c', rfl⟩ := RowB.slice hrow'
  replace hm3 := hide hm3
  replace h3 := hide h3
  clear hu2 hgr hown hrow' hh2 hh hrow
  go_wp2_with fail
  go_ret
  exact ⟨rfl, _, hm3.out, h3.out⟩
set_option maxRecDepth 100000 in
set_option maxHeartbeats 1600000 in
theorem String_any (w : World) (B b d : Nat) (v : Value) (t : List UInt8) (g : Bool) (h : Prn w B b v t d g) (h0 : t ≠ []) :
    Calls Tryd.prog 49 #[.pointer (some ⟨b, 0, none⟩)] w fun e w' => e = .returned (.string (strB t)) ∧ Below B w w' := by
  obtain ⟨p, hbk, -⟩ := h.cells
  have hown := h.row
  have hl0 : t.length ≠ 0 := by simpa using h0
  obtain ⟨q, cap, cur, rfl, hbg, hg, hnc, hcm, hcs, htake⟩ : ∃ q cap cur, v = .slice (some ⟨q, 0, none⟩) t.length cap ∧ B ≤ q ∧ w.heap[q]? = some (.cells cur 5 (0, 0)) ∧ t.length ≤ cap ∧ cap ≤ maxLen ∧ cur.size = cap * 1 ∧ cur.toList.take (t.length * 1) = bv t := by
    rcases hown.2 with ⟨_, hz⟩ | ⟨q, cap, cur, hv, r⟩
    · exact absurd hz hl0
    · exact ⟨q, cap, cur, hv, r⟩
  have c1 : w.drew.cell? ⟨b, 1, none⟩ = some (.slice (some ⟨q, 0, none⟩) t.length cap) := by
    have : w.drew.heap[b]? = _ := hbk
    rw [Lib.cell_of_heap this]; rfl
  have hSD : (Builtin.unsafeSliceData_ #[28] 107 #[.slice (some ⟨q, 0, none⟩) t.length cap]).run Tryd.prog w.drew = .ok (.pointer (some ⟨q, 0, none⟩)) w.drew :=
    Lib.run_unsafeSliceData_row _ _ _ _ _ _ (by omega)
  have hUS : (Builtin.unsafeString_ #[107, 3] 9 #[.pointer (some ⟨q, 0, none⟩), .int .i64 t.length]).run Tryd.prog w.drew = .ok (.string (strB t)) (w.drew.freeze ⟨q, 0, none⟩ t.length) := by
    refine Lib.run_unsafeString_row w.drew 107 3 9 5 Tryd.underlying107 (by kernel_rfl) q cur.size (by have hg' : w.drew.heap[q]? = some (.cells cur 5 (0, 0)) := hg; simp [World.shape?, hg']) t h0 (by omega) (by unfold maxLen at hcm; omega) ?_
    intro j x hx
    exact World.ownsRow.cells (g := q) hown rfl j (.int .u8 x.toNat) (by simp [bv, hx])
  clear hown h hbk hg htake hcs
  generalize t.length = n at *
  generalize strB t = st at *
  go_enter Tryd.func49, Tryd.ntmps49
  go_wp2
  go_region
  all_goals (go_wp2; go_ret; exact ⟨rfl, Lib.below_freeze (Below.drew (Below.refl B w)) (p := ⟨q, 0, none⟩) hbg _⟩)
set_option maxRecDepth 100000 in
set_option maxHeartbeats 1600000 in
theorem String_nil (w : World) (B b d : Nat) (g : Bool) (h : Prn w B b (.slice none 0 0) [] d g) :
    Calls Tryd.prog 49 #[.pointer (some ⟨b, 0, none⟩)] w fun e w' => e = .returned (.string ⟨#[]⟩) ∧ Below B w w' := by
  obtain ⟨p, hbk, -⟩ := h.cells
  have hUS : ∀ (W : World) (q : Option Addr), (Builtin.unsafeString_ #[107, 3] 9 #[.pointer q, .int .i64 0]).run Tryd.prog W = .ok (.string .empty) W := fun W q => Lib.run_unsafeString_none W _ _ _ q
  have c1 : w.drew.cell? ⟨b, 1, none⟩ = some (.slice none 0 0) := by
    have : w.drew.heap[b]? = _ := hbk
    rw [Lib.cell_of_heap this]; rfl
  have hSD : (Builtin.unsafeSliceData_ #[28] 107 #[.slice none 0 0]).run Tryd.prog w.drew = .ok (.pointer none) w.drew := rfl
  clear h hbk
  go_enter Tryd.func49, Tryd.ntmps49
  go_wp2
  go_region
  all_goals (go_wp2; go_ret; exact ⟨rfl, Below.drew (Below.refl B w)⟩)
set_option maxRecDepth 100000 in
theorem text_any (w : World) (B b d : Nat) (v : Value) (t : List UInt8) (g : Bool) (h : Prn w B b v t d g) (h0 : t ≠ []) :
    Calls Tryd.prog 21 #[.pointer (some ⟨b, 0, none⟩)] w fun e w' => e = .returned (.string (strB t)) ∧ Below B w w' := by
  have hS := hide (String_any w B b d v t g h h0)
  clear h h0
  go_enter Tryd.func21, Tryd.ntmps21
  go_wp2_with fail
  refine hS.out.mono ?_
  rintro e w1 ⟨rfl, hb⟩
  go_wp2_with fail
  go_ret
  exact ⟨rfl, hb⟩
set_option maxRecDepth 100000 in
theorem text_nil (w : World) (B b d : Nat) (g : Bool) (h : Prn w B b (.slice none 0 0) [] d g) :
    Calls Tryd.prog 21 #[.pointer (some ⟨b, 0, none⟩)] w fun e w' => e = .returned (.string ⟨#[]⟩) ∧ Below B w w' := by
  have hS := hide (String_nil w B b d g h)
  clear h
  go_enter Tryd.func21, Tryd.ntmps21
  go_wp2_with fail
  refine hS.out.mono ?_
  rintro e w1 ⟨rfl, hb⟩
  go_wp2_with fail
  go_ret
  exact ⟨rfl, hb⟩
end Go.Proofs.YtojbfopmlgdjlaaDoor
