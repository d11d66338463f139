/- Part 2 of the walks (merged): Bd, LayPrint, Order. -/
import Derived.Test.YtiiihpokpfhclaaDoorMs1
import Derived.Shelf.Abstract
import Derived.Lib.UnsafeStr
import Derived.Lib.Builder
import Derived.Laws.Externs
import Derived.Shelf.Strings.Repeat
import Derived.Shelf.Strconv.Itoa4
import Derived.Test.YtiiihpokpfhclaaDoorProg
import Derived.RegionTactic
/- A printer in memory: its text so far, its depth, whether its line has begun; strings.Builder's methods where the builder is a part of it. -/
namespace Go.Proofs.YtiiihpokpfhclaaDoor
open Go Go.RowKit

/-- The printer in block b (from B on): its buffer v holds the text t. -/
structure Prn (w : World) (B b : Nat) (v : Value) (t : List UInt8) (d : Nat) (g : Bool) : Prop where
  hB : B ≤ b
  cells : ∃ p, w.heap[b]? = some (.cells #[p, v, .int .i64 d, .bool g] 61 (0, 0)) ∧ (p = .pointer none ∨ p = .pointer (some ⟨b, 0, none⟩))
  row : RowB w B v t
/-- What the printer's methods may turn: its own block, its buffer's; where its buffer comes to lie. -/
structure PrM (b : Nat) (v : Value) (w : World) (v' : Value) (w' : World) : Prop where
  upd : Upd (fun k => k = b ∨ v.ownBlock = some k) w w'
  own : ∀ k, v'.ownBlock = some k → v.ownBlock = some k ∨ w.heap.size ≤ k
section
variable {w w' w'' : World} {B b d : Nat} {v v' v'' : Value} {t : List UInt8} {g : Bool}
theorem Prn.lt (h : Prn w B b v t d g) : b < w.heap.size := by
  obtain ⟨p, h1, -⟩ := h.cells
  exact (Array.getElem?_eq_some_iff.1 h1).1
theorem Prn.ne (h : Prn w B b v t d g) : v.ownBlock ≠ some b := fun e => by
  obtain ⟨p, h1, -⟩ := h.cells
  exact absurd (own_type h.row e h1) (by decide)
theorem Prn.own (h : Prn w B b v t d g) : ∀ k, v.ownBlock = some k → B ≤ k ∧ k < w.heap.size := fun k hk => World.ownsRow.lt h.row k hk
theorem Prn.upd {F : Nat → Prop} (h : Prn w B b v t d g) (hu : Upd F w w') (hF : ¬ F b) (hv : ∀ k, v.ownBlock = some k → ¬ F k) : Prn w' B b v t d g := by
  obtain ⟨p, h1, h2⟩ := h.cells
  exact ⟨h.hB, ⟨p, hu.heap h1 hF, h2⟩, hu.own h.row hv⟩
theorem Prn.below (h : Prn w B b v t d g) (hb : Below w.heap.size w w') : Prn w' B b v t d g := h.upd (F := fun _ => False) (.of_below _ hb) id fun _ _ => id
theorem Prn.alloc (h : Prn w B b v t d g) (o : Obj) : Prn (w.alloc o) B b v t d g := h.upd (F := fun _ => False) (.alloc _ _ _) id fun _ _ => id
theorem PrM.refl (b : Nat) (v : Value) (w : World) : PrM b v w v w := ⟨.refl _ _, fun _ h => .inl h⟩
theorem PrM.trans (h : PrM b v w v' w') (h' : PrM b v' w' v'' w'') : PrM b v w v'' w'' :=
  ⟨h.upd.trans h'.upd fun k hk e => by
    rcases e with rfl | e
    · exact .inl rfl
    · rcases h.own k e with e | e
      · exact .inr e
      · omega,
   fun k hk => by
    rcases h'.own k hk with e | e
    · exact h.own k e
    · exact .inr (Nat.le_trans h.upd.size e)⟩
theorem PrM.quiet (h : PrM b v w v' w') (hb : Below w'.heap.size w' w'') : PrM b v w v' w'' := ⟨h.upd.then (.of_below _ hb), h.own⟩
theorem PrM.of_below (b : Nat) (v : Value) (hb : Below w.heap.size w w') : PrM b v w v w' := (PrM.refl b v w).quiet hb
theorem PrM.set (h : PrM b v w v' w') (o : Nat) (u : Value) : PrM b v w v' (w'.setCell ⟨b, o, none⟩ u) :=
  ⟨h.upd.then (.set _ (.inl rfl) _), h.own⟩
theorem PrM.below {B : Nat} (h : PrM b v w v' w') (hp : Prn w B b v t d g) (hBw : B ≤ w.heap.size) : Below B w w' :=
  h.upd.below hBw fun k hk => by
    rcases hk with rfl | e
    · exact hp.hB
    · exact (hp.own k e).1
end
theorem lies_bd : liesAt Tryd.prog Tryd.prog.depth 61 (4 / Tryd.prog.cellsOf 61) 0 57 1 = true := by kernel_rfl
theorem size_bd : (Tryd.prog.info? 57).map (·.size) = some 2 := by kernel_rfl
set_option maxRecDepth 100000 in
theorem copyCheck_any (w : World) (B b d : Nat) (v : Value) (t : List UInt8) (g : Bool) (h : Prn w B b v t d g) :
    Calls Tryd.prog 70 #[.pointer (some ⟨b, 0, none⟩)] w fun e w' => e = .returned (.tuple #[]) ∧ PrM b v w v w' ∧ Prn w' B b v t d g ∧ w.heap.size = w'.heap.size := by
  obtain ⟨j, hj, hjs⟩ := Option.map_eq_some_iff.1 size_bd
  obtain ⟨p, h1, hp⟩ := h.cells
  have hsh : w.shape? b = some (61, 4) := by simp [World.shape?, h1]
  have c0 := cell_at h1 0
  have f0 := frozen_at h1 0
  simp at c0
  rcases hp with rfl | rfl
  · have h2 : Prn (w.setCell ⟨b, 0, none⟩ (.pointer (some ⟨b, 0, none⟩))) B b v t d g :=
      ⟨h.hB, ⟨_, heap_set h1 0 _, .inr rfl⟩, (Upd.set w (F := fun k => k = b) (a := ⟨b, 0, none⟩) rfl _).own h.row fun k hk e => h.ne (by rw [← e]; exact hk)⟩
    replace h2 := hide h2
    clear h h1
    go_enter Tryd.func70, Tryd.ntmps70
    go_wp2
    rw [Lib.run_to_unsafe w ⟨b, 0, none⟩ Tryd.underlying55 Tryd.underlying125 hj (by rw [hjs]; decide) hsh (Nat.zero_lt_succ 3)]
    simp only [Result.andThen]
    rw [Oper.upon_value]
    go_wp2
    rw [run_callFunc_extern Tryd.func84 (by kernel_rfl) (by kernel_rfl) (by kernel_rfl) (e := Extern.AbiNoEscape.same) (by kernel_rfl)]
    rw [Lib.run_noEscape]
    simp only [Result.andThen]
    rw [Oper.upon_value]
    go_wp2
    rw [Lib.run_from_unsafe w ⟨b, 0, none⟩ Tryd.underlying125 Tryd.underlying55 hj hsh lies_bd]
    simp only [Result.andThen]
    rw [Oper.upon_value]
    go_wp2
    go_end0
    exact ⟨rfl, (PrM.refl b v w).set 0 _, h2.out, by simp [World.setCell]⟩
  · replace h := hide h
    clear h1
    go_enter Tryd.func70, Tryd.ntmps70
    go_wp2
    rw [Lib.run_neq_ptr_same w _ Tryd.underlying55 hj]
    go_wp2
    go_end0
    exact ⟨rfl, .refl _ _ _, h.out, rfl⟩
set_option maxRecDepth 100000 in
theorem WriteString_any (s : List UInt8) (w : World) (B b d : Nat) (v : Value) (t : List UInt8) (g : Bool) (h : Prn w B b v t d g) (hB : B ≤ w.heap.size) (hl : t.length + s.length ≤ 70368744177664) :
    Calls Tryd.prog 58 #[.pointer (some ⟨b, 0, none⟩), .string (strB s)] w fun e w' => e = .returned (.tuple #[.int .i64 s.length, .nilIface]) ∧ ∃ v', PrM b v w v' w' ∧ Prn w' B b v' (t ++ s) d g := by
  have hC := hide (copyCheck_any w B b d v t g h)
  have hsz : (strB s).size = s.length := rfl
  clear h
  go_enter Tryd.func58, Tryd.ntmps58
  go_wp2_with fail
  refine hC.out.mono ?_
  rintro e w1 ⟨rfl, hm, h1, hz⟩
  obtain ⟨p, hh, hp⟩ := h1.cells
  have c1 := cell_at hh 1
  simp at c1
  have hrow := h1.row
  have hne := h1.ne
  have hBb := h1.hB
  have hlt := h1.lt
  replace hm := hide hm
  replace h1 := hide h1
  go_wp2_with (at_builtin; refine wp_bytes_string rfl _ _ rfl B v t rfl hrow (strB s) rfl ?c1 ?c2 ?_)
  case c1 => rw [hsz]; exact hl
  case c2 => omega
  intro v' w2 hrow' hgr hown
  have hu2 := Upd.grown (F := fun k => v.ownBlock = some k) hgr fun k hk => hk
  have hh2 := hu2.heap hh (fun e => hne e)
  have f1 := frozen_at hh2 1
  have d1 := cell_at hh2 1
  simp at d1
  have hm3 : PrM b v w v' (w2.setCell ⟨b, 1, none⟩ v') := (hm.out.trans ⟨hu2.mono fun k _ e => .inr e, hown⟩).set 1 _
  have h3 : Prn (w2.setCell ⟨b, 1, none⟩ v') B b v' (t ++ s) d g :=
    ⟨hBb, ⟨p, heap_set hh2 1 _, hp⟩, (Upd.set w2 (F := fun k => k = b) (a := ⟨b, 1, none⟩) rfl _).own hrow' fun k hk e => by
      subst e
      rcases hown k hk with e | e
      · exact hne e
      · omega⟩
  obtain ⟨A, n, c, rfl⟩ := RowB.slice hrow'
  replace hm3 := hide hm3
  replace h3 := hide h3
  clear hu2 hgr hown hrow' hh2 hh hrow
  go_wp2_with fail
  go_ret2
  exact ⟨rfl, _, hm3.out, h3.out⟩
set_option maxRecDepth 100000 in
set_option maxHeartbeats 800000 in
theorem WriteByte_any (c : UInt8) (w : World) (B b d : Nat) (v : Value) (t : List UInt8) (g : Bool) (h : Prn w B b v t d g) (hB : B ≤ w.heap.size) (hl : t.length + 1 ≤ 70368744177664) :
    Calls Tryd.prog 60 #[.pointer (some ⟨b, 0, none⟩), .int .u8 c.toNat] w fun e w' => e = .returned .nilIface ∧ ∃ v', PrM b v w v' w' ∧ Prn w' B b v' (t ++ [c]) d g := by
  have hC := hide (copyCheck_any w B b d v t g h)
  clear h
  generalize hcn : (c.toNat : Int) = cn
  go_enter Tryd.func60, Tryd.ntmps60
  go_wp2_with fail
  refine hC.out.mono ?_
  rintro e w1 ⟨rfl, hm, h1, hz⟩
  have hlt := h1.lt
  have h2 := h1.alloc (.cells #[.int .u8 cn] 5)
  obtain ⟨p, hh, hp⟩ := h2.cells
  obtain ⟨p', hh', hp'⟩ := h1.cells
  have c1' := cell_at hh' 1
  have c1 := cell_at hh 1
  simp at c1 c1'
  have hrow := h2.row
  have hne := h2.ne
  have hBb := h2.hB
  have hlt2 := h2.lt
  have hnew := heap_new w1 (.cells #[.int .u8 cn] 5)
  replace hm := hide (hm.quiet ((Below.refl _ w1).alloc (Nat.le_refl _) (.cells #[.int .u8 cn] 5)))
  clear h1 h2
  have hgs : w1.heap.size + 1 = (w1.alloc (.cells #[.int .u8 cn] 5)).heap.size := (Array.size_push ..).symm
  go_wp2_with (at_builtin; refine wp_bytes rfl _ _ rfl B v t rfl hrow ⟨w1.heap.size, 0, none⟩ 1 1 [c] rfl rfl ?c1 ?c2 ?c3 ?_)
  case c1 =>
    intro j u hj
    match j, hj with
    | 0, hj =>
      simp [bv] at hj
      rw [hcn] at hj
      subst hj
      show World.cell? _ ⟨_, 0 + 0, none⟩ = _
      rw [cell_at hnew 0]; rfl
  case c2 => exact hl
  case c3 => omega
  intro v' w2 hrow' hgr hown
  have hu2 := Upd.grown (F := fun k => v.ownBlock = some k) hgr fun k hk => hk
  have hh2 := hu2.heap hh (fun e => hne e)
  have f1 := frozen_at hh2 1
  have d1 := cell_at hh2 1
  simp at d1
  have hm3 : PrM b v w v' (w2.setCell ⟨b, 1, none⟩ v') := (hm.out.trans ⟨hu2.mono fun k _ e => .inr e, hown⟩).set 1 _
  have h3 : Prn (w2.setCell ⟨b, 1, none⟩ v') B b v' (t ++ [c]) d g :=
    ⟨hBb, ⟨p, heap_set hh2 1 _, hp⟩, (Upd.set w2 (F := fun k => k = b) (a := ⟨b, 1, none⟩) rfl _).own hrow' fun k hk e => by
      subst e
      rcases hown k hk with e | e
      · exact hne e
      · omega⟩
  obtain ⟨A, n, c', rfl⟩ := RowB.slice hrow'
  replace hm3 := hide hm3
  replace h3 := hide h3
  clear hu2 hgr hown hrow' hh2 hh hrow
  go_wp2_with fail
  go_ret
  exact ⟨rfl, _, hm3.out, h3.out⟩
set_option maxRecDepth 100000 in
set_option maxHeartbeats 1600000 in
theorem String_any (w : World) (B b d : Nat) (v : Value) (t : List UInt8) (g : Bool) (h : Prn w B b v t d g) (h0 : t ≠ []) :
    Calls Tryd.prog 44 #[.pointer (some ⟨b, 0, none⟩)] w fun e w' => e = .returned (.string (strB t)) ∧ Below B w w' := by
  obtain ⟨p, hbk, -⟩ := h.cells
  have hown := h.row
  have hl0 : t.length ≠ 0 := by simpa using h0
  obtain ⟨q, cap, cur, rfl, hbg, hg, hnc, hcm, hcs, htake⟩ : ∃ q cap cur, v = .slice (some ⟨q, 0, none⟩) t.length cap ∧ B ≤ q ∧ w.heap[q]? = some (.cells cur 5 (0, 0)) ∧ t.length ≤ cap ∧ cap ≤ maxLen ∧ cur.size = cap * 1 ∧ cur.toList.take (t.length * 1) = bv t := by
    rcases hown.2 with ⟨_, hz⟩ | ⟨q, cap, cur, hv, r⟩
    · exact absurd hz hl0
    · exact ⟨q, cap, cur, hv, r⟩
  have c1 : w.drew.cell? ⟨b, 1, none⟩ = some (.slice (some ⟨q, 0, none⟩) t.length cap) := by
    have : w.drew.heap[b]? = _ := hbk
    rw [Lib.cell_of_heap this]; rfl
  have hSD : (Builtin.unsafeSliceData_ #[22] 107 #[.slice (some ⟨q, 0, none⟩) t.length cap]).run Tryd.prog w.drew = .ok (.pointer (some ⟨q, 0, none⟩)) w.drew :=
    Lib.run_unsafeSliceData_row _ _ _ _ _ _ (by omega)
  have hUS : (Builtin.unsafeString_ #[107, 3] 9 #[.pointer (some ⟨q, 0, none⟩), .int .i64 t.length]).run Tryd.prog w.drew = .ok (.string (strB t)) (w.drew.freeze ⟨q, 0, none⟩ t.length) := by
    refine Lib.run_unsafeString_row w.drew 107 3 9 5 Tryd.underlying107 (by kernel_rfl) q cur.size (by have hg' : w.drew.heap[q]? = some (.cells cur 5 (0, 0)) := hg; simp [World.shape?, hg']) t h0 (by omega) (by unfold maxLen at hcm; omega) ?_
    intro j x hx
    exact World.ownsRow.cells (g := q) hown rfl j (.int .u8 x.toNat) (by simp [bv, hx])
  clear hown h hbk hg htake hcs
  generalize t.length = n at *
  generalize strB t = st at *
  go_enter Tryd.func44, Tryd.ntmps44
  go_wp2
  go_region
  all_goals (go_wp2; go_ret; exact ⟨rfl, Lib.below_freeze (Below.drew (Below.refl B w)) (p := ⟨q, 0, none⟩) hbg _⟩)
set_option maxRecDepth 100000 in
set_option maxHeartbeats 1600000 in
theorem String_nil (w : World) (B b d : Nat) (g : Bool) (h : Prn w B b (.slice none 0 0) [] d g) :
    Calls Tryd.prog 44 #[.pointer (some ⟨b, 0, none⟩)] w fun e w' => e = .returned (.string ⟨#[]⟩) ∧ Below B w w' := by
  obtain ⟨p, hbk, -⟩ := h.cells
  have hUS : ∀ (W : World) (q : Option Addr), (Builtin.unsafeString_ #[107, 3] 9 #[.pointer q, .int .i64 0]).run Tryd.prog W = .ok (.string .empty) W := fun W q => Lib.run_unsafeString_none W _ _ _ q
  have c1 : w.drew.cell? ⟨b, 1, none⟩ = some (.slice none 0 0) := by
    have : w.drew.heap[b]? = _ := hbk
    rw [Lib.cell_of_heap this]; rfl
  have hSD : (Builtin.unsafeSliceData_ #[22] 107 #[.slice none 0 0]).run Tryd.prog w.drew = .ok (.pointer none) w.drew := rfl
  clear h hbk
  go_enter Tryd.func44, Tryd.ntmps44
  go_wp2
  go_region
  all_goals (go_wp2; go_ret; exact ⟨rfl, Below.drew (Below.refl B w)⟩)
set_option maxRecDepth 100000 in
theorem text_any (w : World) (B b d : Nat) (v : Value) (t : List UInt8) (g : Bool) (h : Prn w B b v t d g) (h0 : t ≠ []) :
    Calls Tryd.prog 19 #[.pointer (some ⟨b, 0, none⟩)] w fun e w' => e = .returned (.string (strB t)) ∧ Below B w w' := by
  have hS := hide (String_any w B b d v t g h h0)
  clear h h0
  go_enter Tryd.func19, Tryd.ntmps19
  go_wp2_with fail
  refine hS.out.mono ?_
  rintro e w1 ⟨rfl, hb⟩
  go_wp2_with fail
  go_ret
  exact ⟨rfl, hb⟩
set_option maxRecDepth 100000 in
theorem text_nil (w : World) (B b d : Nat) (g : Bool) (h : Prn w B b (.slice none 0 0) [] d g) :
    Calls Tryd.prog 19 #[.pointer (some ⟨b, 0, none⟩)] w fun e w' => e = .returned (.string ⟨#[]⟩) ∧ Below B w w' := by
  have hS := hide (String_nil w B b d g h)
  clear h
  go_enter Tryd.func19, Tryd.ntmps19
  go_wp2_with fail
  refine hS.out.mono ?_
  rintro e w1 ⟨rfl, hb⟩
  go_wp2_with fail
  go_ret
  exact ⟨rfl, hb⟩
end Go.Proofs.YtiiihpokpfhclaaDoor
/- Library functions, laid at this dump: strings.Repeat, strconv.FormatInt, strconv.Itoa. -/
namespace Go.Proofs.YtiiihpokpfhclaaDoor
open Go Go.RowKit Go.Shelf
def layRepeat_ren : Go.Shelf.Ren := ⟨fun | 105 => 59 | 212 => 71 | 99 => 72 | 165 => 73 | 166 => 58 | 170 => 74 | 169 => 44 | 263 => 85 | 264 => 86 | 206 => 87 | 240 => 70 | 241 => 88 | 276 => 84 | 277 => 98 | n => n, fun | 9 => 9 | 3 => 3 | 4 => 4 | 20 => 20 | 0 => 0 | 46 => 113 | 109 => 114 | 5 => 5 | 72 => 57 | 76 => 102 | 51 => 127 | 146 => 128 | 53 => 92 | 148 => 130 | 70 => 55 | 37 => 22 | 75 => 101 | 127 => 107 | 164 => 125 | 80 => 63 | n => n, fun | n => n⟩
theorem layRepeat : Go.Proofs.Lays.n105 Tryd.prog layRepeat_ren := {
  mixed := by kernel_rfl
  f99 := Tryd.func72.trans (congrArg some (by kernel_rfl))
  f105 := Tryd.func59.trans (congrArg some (by kernel_rfl))
  f165 := Tryd.func73.trans (congrArg some (by kernel_rfl))
  f166 := Tryd.func58.trans (congrArg some (by kernel_rfl))
  f169 := Tryd.func44.trans (congrArg some (by kernel_rfl))
  f170 := Tryd.func74.trans (congrArg some (by kernel_rfl))
  f206 := Tryd.func87.trans (congrArg some (by kernel_rfl))
  f212 := Tryd.func71.trans (congrArg some (by kernel_rfl))
  f240 := Tryd.func70.trans (congrArg some (by kernel_rfl))
  f241 := Tryd.func88.trans (congrArg some (by kernel_rfl))
  f263 := Tryd.func85.trans (congrArg some (by kernel_rfl))
  f264 := Tryd.func86.trans (congrArg some (by kernel_rfl))
  f276 := Tryd.func84.trans (congrArg some (by kernel_rfl))
  f277 := Tryd.func98.trans (congrArg some (by kernel_rfl))
  t0 := Tryd.underlying0
  a0 := Tryd.isAgg0
  z0 := Tryd.sizeOf0
  v0 := Tryd.zeroValue0
  t3 := Tryd.underlying3
  a3 := Tryd.isAgg3
  z3 := Tryd.sizeOf3
  v3 := Tryd.zeroValue3
  t4 := Tryd.underlying4
  a4 := Tryd.isAgg4
  z4 := Tryd.sizeOf4
  v4 := Tryd.zeroValue4
  t5 := Tryd.underlying5
  a5 := Tryd.isAgg5
  z5 := Tryd.sizeOf5
  v5 := Tryd.zeroValue5
  t9 := Tryd.underlying9
  a9 := Tryd.isAgg9
  z9 := Tryd.sizeOf9
  v9 := Tryd.zeroValue9
  t20 := Tryd.underlying20
  a20 := Tryd.isAgg20
  z20 := Tryd.sizeOf20
  v20 := Tryd.zeroValue20
  t37 := Tryd.underlying22
  a37 := Tryd.isAgg22
  z37 := Tryd.sizeOf22
  v37 := Tryd.zeroValue22
  t46 := Tryd.underlying113
  a46 := Tryd.isAgg113
  z46 := Tryd.sizeOf113
  v46 := Tryd.zeroValue113
  t51 := Tryd.underlying127
  a51 := Tryd.isAgg127
  z51 := Tryd.sizeOf127
  v51 := Tryd.zeroValue127
  t53 := Tryd.underlying92
  a53 := Tryd.isAgg92
  z53 := Tryd.sizeOf92
  v53 := Tryd.zeroValue92
  t70 := Tryd.underlying55
  a70 := Tryd.isAgg55
  z70 := Tryd.sizeOf55
  v70 := Tryd.zeroValue55
  t72 := Tryd.underlying57
  a72 := Tryd.isAgg57
  z72 := Tryd.sizeOf57
  v72 := Tryd.zeroValue57
  t75 := Tryd.underlying101
  a75 := Tryd.isAgg101
  z75 := Tryd.sizeOf101
  v75 := Tryd.zeroValue101
  t76 := Tryd.underlying102
  a76 := Tryd.isAgg102
  z76 := Tryd.sizeOf102
  v76 := Tryd.zeroValue102
  t109 := Tryd.underlying114
  a109 := Tryd.isAgg114
  z109 := Tryd.sizeOf114
  v109 := Tryd.zeroValue114
  t127 := Tryd.underlying107
  a127 := Tryd.isAgg107
  z127 := Tryd.sizeOf107
  v127 := Tryd.zeroValue107
  t146 := Tryd.underlying128
  a146 := Tryd.isAgg128
  z146 := Tryd.sizeOf128
  v146 := Tryd.zeroValue128
  t148 := Tryd.underlying130
  a148 := Tryd.isAgg130
  z148 := Tryd.sizeOf130
  v148 := Tryd.zeroValue130
  t164 := Tryd.underlying125
  a164 := Tryd.isAgg125
  z164 := Tryd.sizeOf125
  v164 := Tryd.zeroValue125 }
def layFormat_ren : Go.Shelf.Ren := ⟨fun | 173 => 54 | 246 => 69 | 283 => 80 | 284 => 81 | 285 => 82 | 286 => 83 | 129 => 94 | 317 => 93 | 318 => 95 | 319 => 96 | 320 => 97 | 337 => 100 | 338 => 101 | n => n, fun | 2 => 2 | 3 => 3 | 9 => 9 | 4 => 4 | 171 => 120 | 0 => 0 | 53 => 92 | 37 => 22 | 5 => 5 | 173 => 123 | 212 => 134 | 51 => 127 | 20 => 20 | 213 => 135 | 46 => 113 | 232 => 141 | 233 => 142 | n => n, fun | 17 => 0 | 18 => 2 | 19 => 3 | n => n⟩
theorem layFormat : Go.Proofs.LaysM.n173 Tryd.prog layFormat_ren := {
  mixed := by kernel_rfl
  f129 := Tryd.func94.trans (congrArg some (by kernel_rfl))
  f173 := Tryd.func54.trans (congrArg some (by kernel_rfl))
  f246 := Tryd.func69.trans (congrArg some (by kernel_rfl))
  f283 := Tryd.func80.trans (congrArg some (by kernel_rfl))
  f284 := Tryd.func81.trans (congrArg some (by kernel_rfl))
  f285 := Tryd.func82.trans (congrArg some (by kernel_rfl))
  f286 := Tryd.func83.trans (congrArg some (by kernel_rfl))
  f317 := Tryd.func93.trans (congrArg some (by kernel_rfl))
  f318 := Tryd.func95.trans (congrArg some (by kernel_rfl))
  f319 := Tryd.func96.trans (congrArg some (by kernel_rfl))
  f320 := Tryd.func97.trans (congrArg some (by kernel_rfl))
  f337 := Tryd.func100.trans (congrArg some (by kernel_rfl))
  f338 := Tryd.func101.trans (congrArg some (by kernel_rfl))
  t0 := Tryd.underlying0
  a0 := Tryd.isAgg0
  z0 := Tryd.sizeOf0
  v0 := Tryd.zeroValue0
  t2 := Tryd.underlying2
  a2 := Tryd.isAgg2
  z2 := Tryd.sizeOf2
  v2 := Tryd.zeroValue2
  t3 := Tryd.underlying3
  a3 := Tryd.isAgg3
  z3 := Tryd.sizeOf3
  v3 := Tryd.zeroValue3
  t4 := Tryd.underlying4
  a4 := Tryd.isAgg4
  z4 := Tryd.sizeOf4
  v4 := Tryd.zeroValue4
  t5 := Tryd.underlying5
  a5 := Tryd.isAgg5
  z5 := Tryd.sizeOf5
  v5 := Tryd.zeroValue5
  t9 := Tryd.underlying9
  a9 := Tryd.isAgg9
  z9 := Tryd.sizeOf9
  v9 := Tryd.zeroValue9
  t20 := Tryd.underlying20
  a20 := Tryd.isAgg20
  z20 := Tryd.sizeOf20
  v20 := Tryd.zeroValue20
  t37 := Tryd.underlying22
  a37 := Tryd.isAgg22
  z37 := Tryd.sizeOf22
  v37 := Tryd.zeroValue22
  t46 := Tryd.underlying113
  a46 := Tryd.isAgg113
  z46 := Tryd.sizeOf113
  v46 := Tryd.zeroValue113
  t51 := Tryd.underlying127
  a51 := Tryd.isAgg127
  z51 := Tryd.sizeOf127
  v51 := Tryd.zeroValue127
  t53 := Tryd.underlying92
  a53 := Tryd.isAgg92
  z53 := Tryd.sizeOf92
  v53 := Tryd.zeroValue92
  t171 := Tryd.underlying120
  a171 := Tryd.isAgg120
  z171 := Tryd.sizeOf120
  v171 := Tryd.zeroValue120
  t173 := Tryd.underlying123
  a173 := Tryd.isAgg123
  z173 := Tryd.sizeOf123
  v173 := Tryd.zeroValue123
  t212 := Tryd.underlying134
  a212 := Tryd.isAgg134
  z212 := Tryd.sizeOf134
  v212 := Tryd.zeroValue134
  t213 := Tryd.underlying135
  a213 := Tryd.isAgg135
  z213 := Tryd.sizeOf135
  t232 := Tryd.underlying141
  a232 := Tryd.isAgg141
  z232 := Tryd.sizeOf141
  v232 := Tryd.zeroValue141
  t233 := Tryd.underlying142
  a233 := Tryd.isAgg142
  z233 := Tryd.sizeOf142
  v233 := Tryd.zeroValue142
  g17 := by kernel_rfl
  g18 := by kernel_rfl
  g19 := by kernel_rfl
  i0 := by kernel_rfl
  i2 := by kernel_rfl
  i3 := by kernel_rfl
  i4 := by kernel_rfl
  i5 := by kernel_rfl
  i9 := by kernel_rfl
  i20 := by kernel_rfl
  i37 := by kernel_rfl
  i46 := by kernel_rfl
  i51 := by kernel_rfl
  i53 := by kernel_rfl
  i171 := by kernel_rfl
  i173 := by kernel_rfl
  i212 := by kernel_rfl
  i232 := by kernel_rfl
  i233 := by kernel_rfl
  m17 := by kernel_rfl
  m18 := by kernel_rfl
  m19 := by kernel_rfl }
def layItoa_ren : Go.Shelf.Ren := ⟨fun | 171 => 34 | 243 => 61 | 246 => 69 | 283 => 80 | 284 => 81 | 285 => 82 | 286 => 83 | 129 => 94 | 317 => 93 | 318 => 95 | 319 => 96 | 320 => 97 | 337 => 100 | 338 => 101 | n => n, fun | 3 => 3 | 9 => 9 | 2 => 2 | 4 => 4 | 171 => 120 | 0 => 0 | 53 => 92 | 37 => 22 | 5 => 5 | 173 => 123 | 212 => 134 | 51 => 127 | 20 => 20 | 213 => 135 | 46 => 113 | 232 => 141 | 233 => 142 | n => n, fun | 17 => 0 | 18 => 2 | 19 => 3 | n => n⟩
theorem layItoa : Go.Proofs.LaysM.n171 Tryd.prog layItoa_ren := {
  mixed := by kernel_rfl
  f129 := Tryd.func94.trans (congrArg some (by kernel_rfl))
  f171 := Tryd.func34.trans (congrArg some (by kernel_rfl))
  f243 := Tryd.func61.trans (congrArg some (by kernel_rfl))
  f246 := Tryd.func69.trans (congrArg some (by kernel_rfl))
  f283 := Tryd.func80.trans (congrArg some (by kernel_rfl))
  f284 := Tryd.func81.trans (congrArg some (by kernel_rfl))
  f285 := Tryd.func82.trans (congrArg some (by kernel_rfl))
  f286 := Tryd.func83.trans (congrArg some (by kernel_rfl))
  f317 := Tryd.func93.trans (congrArg some (by kernel_rfl))
  f318 := Tryd.func95.trans (congrArg some (by kernel_rfl))
  f319 := Tryd.func96.trans (congrArg some (by kernel_rfl))
  f320 := Tryd.func97.trans (congrArg some (by kernel_rfl))
  f337 := Tryd.func100.trans (congrArg some (by kernel_rfl))
  f338 := Tryd.func101.trans (congrArg some (by kernel_rfl))
  t0 := Tryd.underlying0
  a0 := Tryd.isAgg0
  z0 := Tryd.sizeOf0
  v0 := Tryd.zeroValue0
  t2 := Tryd.underlying2
  a2 := Tryd.isAgg2
  z2 := Tryd.sizeOf2
  v2 := Tryd.zeroValue2
  t3 := Tryd.underlying3
  a3 := Tryd.isAgg3
  z3 := Tryd.sizeOf3
  v3 := Tryd.zeroValue3
  t4 := Tryd.underlying4
  a4 := Tryd.isAgg4
  z4 := Tryd.sizeOf4
  v4 := Tryd.zeroValue4
  t5 := Tryd.underlying5
  a5 := Tryd.isAgg5
  z5 := Tryd.sizeOf5
  v5 := Tryd.zeroValue5
  t9 := Tryd.underlying9
  a9 := Tryd.isAgg9
  z9 := Tryd.sizeOf9
  v9 := Tryd.zeroValue9
  t20 := Tryd.underlying20
  a20 := Tryd.isAgg20
  z20 := Tryd.sizeOf20
  v20 := Tryd.zeroValue20
  t37 := Tryd.underlying22
  a37 := Tryd.isAgg22
  z37 := Tryd.sizeOf22
  v37 := Tryd.zeroValue22
  t46 := Tryd.underlying113
  a46 := Tryd.isAgg113
  z46 := Tryd.sizeOf113
  v46 := Tryd.zeroValue113
  t51 := Tryd.underlying127
  a51 := Tryd.isAgg127
  z51 := Tryd.sizeOf127
  v51 := Tryd.zeroValue127
  t53 := Tryd.underlying92
  a53 := Tryd.isAgg92
  z53 := Tryd.sizeOf92
  v53 := Tryd.zeroValue92
  t171 := Tryd.underlying120
  a171 := Tryd.isAgg120
  z171 := Tryd.sizeOf120
  v171 := Tryd.zeroValue120
  t173 := Tryd.underlying123
  a173 := Tryd.isAgg123
  z173 := Tryd.sizeOf123
  v173 := Tryd.zeroValue123
  t212 := Tryd.underlying134
  a212 := Tryd.isAgg134
  z212 := Tryd.sizeOf134
  v212 := Tryd.zeroValue134
  t213 := Tryd.underlying135
  a213 := Tryd.isAgg135
  z213 := Tryd.sizeOf135
  t232 := Tryd.underlying141
  a232 := Tryd.isAgg141
  z232 := Tryd.sizeOf141
  v232 := Tryd.zeroValue141
  t233 := Tryd.underlying142
  a233 := Tryd.isAgg142
  z233 := Tryd.sizeOf142
  v233 := Tryd.zeroValue142
  g17 := by kernel_rfl
  g18 := by kernel_rfl
  g19 := by kernel_rfl
  i0 := by kernel_rfl
  i2 := by kernel_rfl
  i3 := by kernel_rfl
  i4 := by kernel_rfl
  i5 := by kernel_rfl
  i9 := by kernel_rfl
  i20 := by kernel_rfl
  i37 := by kernel_rfl
  i46 := by kernel_rfl
  i51 := by kernel_rfl
  i53 := by kernel_rfl
  i171 := by kernel_rfl
  i173 := by kernel_rfl
  i212 := by kernel_rfl
  i232 := by kernel_rfl
  i233 := by kernel_rfl
  m17 := by kernel_rfl
  m18 := by kernel_rfl
  m19 := by kernel_rfl }
end Go.Proofs.YtiiihpokpfhclaaDoor
/- A region that draws its order, and whose operations only read what was there and make new memory: what holds behind each operation, and is kept as memory grows, holds behind all of them, in whatever order they come. -/
namespace Go.Proofs.YtiiihpokpfhclaaDoor
open Go Go.RowKit

/-- What an operation's slot holds. -/
def slotOf (ops : Array Oper) (T : Array Value) (j : Nat) : Value := ((((ops[j]?).bind (·.dst)).map fun d => T.getD d undef)).getD undef

abbrev Fact := Value → World → Prop
/-- A fact that is kept as memory grows. -/
def Kept (φ : Fact) : Prop := ∀ v w w', φ v w → Below w.heap.size w w' → φ v w'
theorem Kept.eq (c : Value) : Kept (fun v _ => v = c) := fun _ _ _ h _ => h

/-- The facts of the operations ahead of which an operation may not come. -/
def Deps (ops : Array Oper) (Φ : Nat → Fact) (T : Array Value) (w : World) : List Edge → Prop
  | [] => True
  | e :: r => (Region.binds .any e = true → Φ e.on (slotOf ops T e.on) w) ∧ Deps ops Φ T w r

/-- One operation does what its fact says, whatever has been done beside it. -/
def StepOk (P : Program) (ops : Array Oper) (Φ : Nat → Fact) (T0 : Array Value) (D : List Deferred) (w0 : World) (i : Nat) (o : Oper) : Prop :=
  ∀ (T : Array Value) (w : World) (Q : Exit → Act → World → Prop), Below w0.heap.size w0 w → T.size = T0.size → (∀ s, (ops.any fun o => o.dst == some s) = false → T.getD s undef = T0.getD s undef) →
    Deps ops Φ T w o.after.toList → Region.wanted o (yielded ops T) = true ∧ o.wp P ⟨T, D⟩ w (fun a' w' => ∃ v, a' = (⟨T, D⟩ : Act).put o.dst v ∧ Below w.heap.size w w' ∧ Φ i v w') Q

def StepsOk (P : Program) (ops : Array Oper) (Φ : Nat → Fact) (T0 : Array Value) (D : List Deferred) (w0 : World) : Nat → List Oper → Prop
  | _, [] => True
  | i, o :: r => StepOk P ops Φ T0 D w0 i o ∧ StepsOk P ops Φ T0 D w0 (i + 1) r
theorem StepsOk.get {P : Program} {ops : Array Oper} {Φ : Nat → Fact} {T0 : Array Value} {D : List Deferred} {w0 : World} : ∀ {k : Nat} {l : List Oper} {i : Nat} {o : Oper},
    StepsOk P ops Φ T0 D w0 k l → l[i]? = some o → StepOk P ops Φ T0 D w0 (k + i) o
  | k, [], i, o, _, h => by simp at h
  | k, x :: l, 0, o, h, hi => by
    have : x = o := by simpa using hi
    exact this ▸ h.1
  | k, x :: l, i + 1, o, h, hi => by
    have := StepsOk.get (i := i) h.2 (by simpa using hi)
    rwa [Nat.add_assoc, Nat.add_comm 1 i] at this

/-- Each operation writes a slot of its own, within the frame. -/
def dstsB (ops : Array Oper) (n : Nat) : Bool :=
  ops.all fun o => match o.dst with | some d => decide (d < n) | none => false
def apartB (ops : Array Oper) : Bool :=
  (List.range ops.size).all fun i => (List.range ops.size).all fun j => i == j || ((ops[i]?).bind (·.dst)) != ((ops[j]?).bind (·.dst))

/-- Edges lead back in the text. -/
def backB (ops : Array Oper) : Bool :=
  (List.range ops.size).all fun i => ((ops[i]?).map fun o => o.after.all fun e => decide (e.on < i)).getD false

structure Inv (ops : Array Oper) (Φ : Nat → Fact) (T0 : Array Value) (D : List Deferred) (w0 : World) (listed : Array Bool) (a : Act) (w : World) : Prop where
  below : Below w0.heap.size w0 w
  defers : a.defers = D
  size : a.tmps.size = T0.size
  lsize : listed.size = ops.size
  vars : ∀ s, (ops.any fun o => o.dst == some s) = false → a.tmps.getD s undef = T0.getD s undef
  facts : ∀ j, listed[j]? = some true → Φ j (slotOf ops a.tmps j) w

theorem deps_of {ops : Array Oper} {Φ : Nat → Fact} {T0 : Array Value} {D : List Deferred} {w0 : World} {listed : Array Bool} {a : Act} {w : World} (h : Inv ops Φ T0 D w0 listed a w) : ∀ (l : List Edge),
    (l.all fun e => !Region.binds .any e || listed.getD e.on false) = true → Deps ops Φ a.tmps w l
  | [], _ => trivial
  | e :: r, hl => by
    rw [List.all_cons, Bool.and_eq_true] at hl
    refine ⟨fun hb => h.facts _ ?_, deps_of h r hl.2⟩
    have h1 := hl.1
    rw [hb] at h1
    simp only [Bool.not_true, Bool.false_or] at h1
    rw [Array.getD_eq_getD_getElem?] at h1
    cases hx : listed[e.on]? with
    | none => rw [hx] at h1; simp at h1
    | some b => rw [hx] at h1; simpa using h1

theorem any_of_get {ops : Array Oper} {i : Nat} {o : Oper} {d : Tmp} (ho : ops[i]? = some o) (hd : o.dst = some d) : (ops.any fun o => o.dst == some d) = true := by
  rw [Array.any_eq_true']
  exact ⟨o, Array.mem_of_getElem? ho, by simp [hd]⟩

theorem wpAny_inv {P : Program} {ops : Array Oper} {Φ : Nat → Fact} {T0 : Array Value} {D : List Deferred} {w0 : World} {Q : Exit → Act → World → Prop}
    (hk : ∀ i, Kept (Φ i)) (hd : dstsB ops T0.size = true) (ha : apartB ops = true) (hbk : backB ops = true) (hs : StepsOk P ops Φ T0 D w0 0 ops.toList)
    (hQ : ∀ T w, Below w0.heap.size w0 w → T.size = T0.size → (∀ s, (ops.any fun o => o.dst == some s) = false → T.getD s undef = T0.getD s undef) → (∀ j, j < ops.size → Φ j (slotOf ops T j) w) → Q .normal ⟨T, D⟩ w) :
    ∀ (fuel : Nat) (listed : Array Bool) (a : Act) (w : World), (listed.toList.countP fun b => !b) ≤ fuel → Inv ops Φ T0 D w0 listed a w → wpAny P .any ops Q fuel listed a w := by
  have hend : ∀ (listed : Array Bool) (a : Act) (w : World), Inv ops Φ T0 D w0 listed a w → (∀ j, j < ops.size → listed[j]? = some true) → Q .normal a w := by
    intro listed a w h hall
    obtain ⟨T, D'⟩ := a
    have hD : D' = D := h.defers
    subst hD
    exact hQ T w h.below h.size h.vars fun j hj => h.facts j (hall j hj)
  -- an operation that is not listed and whose edges' ends are listed may come up: so where none may, all are listed
  intro fuel
  induction fuel with
  | zero =>
    intro listed a w hc h
    have hall : ∀ j, j < ops.size → listed[j]? = some true := by
      intro j hj
      have hj' : j < listed.size := by rw [h.lsize]; exact hj
      have h0 : (listed.toList.countP fun b => !b) = 0 := by omega
      rw [List.countP_eq_zero] at h0
      have := h0 listed[j] (by simp)
      rw [Array.getElem?_eq_getElem hj']
      simpa using this
    refine ⟨?_, hend _ _ _ h hall⟩
    unfold Region.ready
    rw [List.filter_eq_nil_iff]
    intro i hi
    rw [List.mem_range] at hi
    rw [Array.getD_eq_getD_getElem?, hall i hi]
    simp
  | succ fuel ih =>
    intro listed a w hc h
    have hstep : ∀ i ∈ Region.ready .any ops listed, wpOp P ops Q i (wpAny P .any ops Q fuel (listed.setIfInBounds i true)) a w := by
      intro i hi
      unfold Region.ready at hi
      rw [List.mem_filter, List.mem_range, Bool.and_eq_true] at hi
      obtain ⟨hin, hnl, hde⟩ := hi
      have hin' : i < listed.size := by rw [h.lsize]; exact hin
      have ho : ops[i]? = some ops[i] := Array.getElem?_eq_getElem hin
      rw [ho] at hde
      simp only [Option.map_some, Option.getD_some] at hde
      have hdeps := deps_of h ops[i].after.toList (by rw [← Array.all_toList] at hde; exact hde)
      have hstep := StepsOk.get (i := i) (o := ops[i]) hs (by simp [hin])
      rw [Nat.zero_add] at hstep
      obtain ⟨T, D'⟩ := a
      have hD : D' = D := h.defers
      subst hD
      obtain ⟨hw, hwp⟩ := hstep T w Q h.below h.size h.vars hdeps
      have hdst : ∃ d, ops[i].dst = some d ∧ d < T.size := by
        unfold dstsB at hd
        rw [Array.all_eq_true] at hd
        have := hd i hin
        cases hx : ops[i].dst with
        | none => rw [hx] at this; simp at this
        | some d => rw [hx] at this; exact ⟨d, rfl, by rw [h.size]; simpa using this⟩
      obtain ⟨d, hdd, hdT⟩ := hdst
      unfold wpOp
      simp only [ho, hw, if_true]
      refine .inl (Oper.wp_mono ?_ hwp)
      rintro a' w' ⟨v, rfl, hb, hφ⟩
      have hlt : listed.getD i true = false := by simpa using hnl
      refine ih _ _ _ ?_ ⟨?_, ?_, ?_, ?_, ?_, ?_⟩
      · have hcount : ((listed.setIfInBounds i true).toList.countP fun b => !b) + 1 = (listed.toList.countP fun b => !b) := by
          rw [Array.toList_setIfInBounds]
          have hil : i < listed.toList.length := by simpa using hin'
          have hf : listed.toList[i] = false := by
            rw [Array.getD_eq_getD_getElem?, Array.getElem?_eq_getElem hin'] at hlt
            simpa using hlt
          have h1 := List.countP_set (p := fun b => !b) (l := listed.toList) (i := i) (a := true) hil
          have hpos : 0 < (listed.toList.countP fun b => !b) := by
            rw [List.countP_pos_iff]
            exact ⟨false, by rw [← hf]; exact List.getElem_mem hil, rfl⟩
          rw [h1, hf]
          simp only [Bool.not_false, if_true, Bool.not_true, Bool.false_eq_true, if_false]
          omega
        omega
      · exact h.below.trans (hb.mono h.below.size)
      · show (Act.put _ _ _).defers = _
        rw [hdd]; rfl
      · show (Act.put _ _ _).tmps.size = _
        rw [hdd]
        show (T.setIfInBounds d v).size = _
        rw [Array.size_setIfInBounds]; exact h.size
      · rw [Array.size_setIfInBounds]; exact h.lsize
      · intro s hsn
        have hne : s ≠ d := by
          rintro rfl
          rw [any_of_get ho hdd] at hsn
          cases hsn
        rw [← h.vars s hsn, hdd]
        show (T.setIfInBounds d v).getD s undef = T.getD s undef
        rw [Array.getD_eq_getD_getElem?, Array.getD_eq_getD_getElem?, Array.getElem?_setIfInBounds_ne (Ne.symm hne)]
      · intro j hj
        by_cases hji : j = i
        · subst hji
          have hv : slotOf ops ((⟨T, D'⟩ : Act).put ops[j].dst v).tmps j = v := by
            unfold slotOf
            rw [ho]
            simp only [Option.bind_some, hdd, Option.map_some, Option.getD_some]
            show (T.setIfInBounds d v).getD d undef = v
            rw [Array.getD_eq_getD_getElem?, Array.getElem?_setIfInBounds_self_of_lt hdT]
            rfl
          rw [hv]; exact hφ
        · rw [Array.getElem?_setIfInBounds_ne (Ne.symm hji)] at hj
          have hold := h.facts j hj
          have hjn : j < ops.size := by
            rw [← h.lsize]
            rcases Nat.lt_or_ge j listed.size with hlt | hge
            · exact hlt
            · rw [Array.getElem?_eq_none hge] at hj; cases hj
          have hs' : slotOf ops ((⟨T, D'⟩ : Act).put ops[i].dst v).tmps j = slotOf ops T j := by
            unfold slotOf
            rw [Array.getElem?_eq_getElem hjn]
            cases hdj : ops[j].dst with
            | none => simp [hdj]
            | some dj =>
              have hne : d ≠ dj := by
                rintro rfl
                unfold apartB at ha
                rw [List.all_eq_true] at ha
                have h2 := ha i (List.mem_range.2 hin)
                rw [List.all_eq_true] at h2
                have h3 := h2 j (List.mem_range.2 hjn)
                rw [ho, Array.getElem?_eq_getElem hjn] at h3
                simp only [Option.bind_some, hdd, hdj, bne_self_eq_false, Bool.or_false, beq_iff_eq] at h3
                exact hji h3.symm
              simp only [Option.bind_some, hdj, Option.map_some, Option.getD_some, hdd]
              show (T.setIfInBounds d v).getD dj undef = T.getD dj undef
              rw [Array.getD_eq_getD_getElem?, Array.getD_eq_getD_getElem?, Array.getElem?_setIfInBounds_ne hne]
          rw [hs']
          exact hk j _ _ _ hold hb
    refine ⟨fun hr => ?_, hstep⟩
    refine hend _ _ _ h ?_
    intro j
    induction j using Nat.strongRecOn with
    | ind j ihj =>
      intro hj
      have hjl : j < listed.size := by rw [h.lsize]; exact hj
      cases hb : listed[j] with
      | true => rw [Array.getElem?_eq_getElem hjl, hb]
      | false =>
        exfalso
        have hmem : j ∈ Region.ready .any ops listed := by
          unfold Region.ready
          rw [List.mem_filter, List.mem_range, Bool.and_eq_true]
          refine ⟨hj, ?_, ?_⟩
          · rw [Array.getD_eq_getD_getElem?, Array.getElem?_eq_getElem hjl, hb]; rfl
          · rw [Array.getElem?_eq_getElem hj]
            simp only [Option.map_some, Option.getD_some]
            unfold backB at hbk
            rw [List.all_eq_true] at hbk
            have h1 := hbk j (List.mem_range.2 hj)
            rw [Array.getElem?_eq_getElem hj] at h1
            simp only [Option.map_some, Option.getD_some] at h1
            rw [Array.all_eq_true'] at h1 ⊢
            intro e he
            have h2 := h1 e he
            rw [decide_eq_true_iff] at h2
            rw [Array.getD_eq_getD_getElem?, ihj e.on h2 (by omega)]
            simp
        rw [hr] at hmem
        cases hmem

/-- The region's rule. -/
theorem wp_region_kept {P : Program} {ops : Array Oper} {id : Nat} {a0 : Act} {w0 : World} {Q : Exit → Act → World → Prop} (Φ : Nat → Fact)
    (hm : P.follows .mixedOrders = true) (hk : ∀ i, Kept (Φ i)) (hd : dstsB ops a0.tmps.size = true) (ha : apartB ops = true) (hbk : backB ops = true) (hs : StepsOk P ops Φ a0.tmps a0.defers w0 0 ops.toList)
    (hQ : ∀ T w, Below w0.heap.size w0 w → T.size = a0.tmps.size → (∀ s, (ops.any fun o => o.dst == some s) = false → T.getD s undef = a0.tmps.getD s undef) → (∀ j, j < ops.size → Φ j (slotOf ops T j) w) → Q .normal ⟨T, a0.defers⟩ w) :
    (Code.region id ops true).wp P Q a0 w0 := by
  refine wp_region_any hm (wpAny_inv hk hd ha hbk hs hQ _ _ _ _ ?_ ⟨?_, rfl, rfl, by simp, fun _ _ => rfl, fun j hj => ?_⟩)
  · rw [Array.toList_replicate]
    exact Nat.le_trans List.countP_le_length (by simp)
  · exact (Below.refl _ w0).drew
  · rw [Array.getElem?_replicate] at hj
    split at hj <;> simp at hj

theorem Deps.at {ops : Array Oper} {Φ : Nat → Fact} {T : Array Value} {w : World} (j : Nat) : ∀ {l : List Edge}, Deps ops Φ T w l → (l.any fun e => Region.binds .any e && e.on == j) = true → Φ j (slotOf ops T j) w
  | [], _, h => by simp at h
  | e :: r, h, hj => by
    rw [List.any_cons, Bool.or_eq_true, Bool.and_eq_true, beq_iff_eq] at hj
    rcases hj with ⟨hb, rfl⟩ | hj
    · exact h.1 hb
    · exact Deps.at j h.2 hj
theorem wanted_none {o : Oper} {y : Nat → Option Bool} (h : o.guard = none) : Region.wanted o y = true := by
  unfold Region.wanted; rw [h]
theorem wanted_some {ops : Array Oper} {T : Array Value} {o : Oper} {g : Nat} {b : Bool} (h : o.guard = some (g, b)) (hs : slotOf ops T g = .bool b) : Region.wanted o (yielded ops T) = true := by
  unfold Region.wanted; rw [h]
  have hy : yielded ops T g = some b := by
    unfold slotOf at hs
    unfold yielded
    cases hd : (ops[g]?).bind (·.dst) with
    | none => rw [hd] at hs; simp [undef] at hs
    | some d =>
      rw [hd] at hs
      simp only [Option.map_some, Option.getD_some] at hs
      rw [Array.getD_eq_getD_getElem?] at hs
      cases ht : T[d]? with
      | none => rw [ht] at hs; simp [undef] at hs
      | some v =>
        rw [ht] at hs
        simp only [Option.getD_some] at hs
        subst hs
        show (match T[d]? with | some (Value.bool b) => some b | _ => none) = some b
        rw [ht]
  show (yielded ops T g == some b) = true
  rw [hy]; simp
def factAt (L : List Fact) (i : Nat) : Fact := L.getD i fun _ _ => True
def KeptAll : List Fact → Prop
  | [] => True
  | φ :: r => Kept φ ∧ KeptAll r
theorem kept_at : ∀ {L : List Fact}, KeptAll L → ∀ i, Kept (factAt L i)
  | [], _, i => by intro v w w' h _; simp [factAt]
  | φ :: r, h, 0 => h.1
  | φ :: r, h, i + 1 => kept_at h.2 i

theorem kept_rows (ls : List (List UInt8)) : Kept (fun v w => RowsV w w.heap.size v ls) := fun _ _ _ h hb => (h.below hb).more hb.size
theorem kept_strs (ss : List ByteArray) : Kept (fun v w => StrsV w w.heap.size v ss) := fun _ _ _ h hb => (h.below hb).more hb.size
end Go.Proofs.YtiiihpokpfhclaaDoor
