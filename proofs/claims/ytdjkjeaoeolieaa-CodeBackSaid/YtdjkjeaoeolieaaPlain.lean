/- Walks: what is handed back of a summary, as the document's answer has it. -/
import Derived.Test.YtdjkjeaoeolieaaBack
namespace Go.Proofs.Ytdjkjeaoeolieaa
open Go.RowKit

section
variable {P : Program} (w : World)
/-- An append of nothing to nil. -/
theorem run_app_nothing (t ty e : TypeId) (i : TypeInfo) (ht : P.underlying t = some (.slice e)) (hi : P.info? e = some i) (A : Option Addr) (c : Nat) :
    (Builtin.append_ #[t, t] ty #[.slice none 0 0, .slice A 0 c]).run P w = .ok (.slice none 0 0) w := by
  cases A <;> simp [Builtin.append_, run_underlying ht, sizeOf, typeInfo, hi, Builtin.lenOf, Builtin.firstCells, loadCells, loadCellsFrom]
end
section
variable {w : World} {ops : Array Oper} {rest : List Oper} {o : Oper} {a : Act} {Q : Exit → Act → World → Prop}
/-- The walk's law: a copy of what came in, behind nil. -/
theorem wp_copy (hgd : o.guard = none) (s x : Operand) (t : TypeId) (ho : o.op = .call { callee := .builtin .append, args := #[s, x], argTypes := #[t, t] })
    (e : TypeId) (i : TypeInfo) (z : Value) (size bytes : Nat) (ht : Try.prog.underlying t = some (.slice e)) (hi : Try.prog.info? e = some i) (hz : i.zero = some z)
    (hsize : i.size = size) (hby : i.bytes = bytes) (hzs : z.cells.size = size) (hsz : 0 < size)
    (hs : a.eval s = .slice none 0 0) (S : Nat → Prop) (v : Value) (n : Nat) (xs : List Value) (hx : a.eval x = v) (hv : ArgN w S v n xs) (hl : xs.length = n * size) (h1 : ∀ u ∈ xs, u.oneCell' = true)
    (hlen : n * bytes ≤ 140737488355328)
    (h : ∀ v' w', w'.ownsRow w.heap.size e size v' n xs → Below w.heap.size w w' → wpList Try.prog ops Q rest (a.put o.dst v') w') : wpList Try.prog ops Q (o :: rest) a w := by
  refine wpList_plain hgd fun K hK => ?_
  obtain ⟨A, c, rfl, hn, hc, hcell⟩ := hv
  have hrun : ∃ v' w', (Builtin.append_ #[t, t] o.type #[.slice none 0 0, .slice A n c]).run Try.prog w = .ok v' w' ∧ w'.ownsRow w.heap.size e size v' n xs ∧ Below w.heap.size w w' := by
    rcases Nat.eq_zero_or_pos n with h0 | h0
    · subst h0
      obtain rfl : xs = [] := List.eq_nil_of_length_eq_zero (by omega)
      exact ⟨_, _, run_app_nothing w t o.type e i ht hi A c, World.ownsRow_nil _ _ _ _, Below.refl _ _⟩
    · rcases hcell with rfl | ⟨b, o', rfl, -, hcell⟩
      · exfalso
        have := Nat.mul_pos h0 hsz
        simp at hl; omega
      · obtain ⟨v', w', hr, h2, h3, h4⟩ := run_append_moved (P := Try.prog) w w.heap.size t o.type e i z size bytes ht hi hz hsize hby hzs hsz _ 0 [] (World.ownsRow_nil w _ e size) ⟨b, o', none⟩ n c xs hl (fun j u hu => by rw [Go.WideShapes.add_plain]; exact hcell j u hu) h1 (by omega) (by rw [Nat.zero_add]; exact hlen) (Nat.le_refl _)
        refine ⟨v', w', hr, by simpa using h2, (Below.refl _ w).grown h3 (Nat.le_refl _) (fun k hk => by cases hk)⟩
  obtain ⟨v', w', hr, h2, h3⟩ := hrun
  unfold Oper.wp execOp
  simp only [ho, resolve, invoke, builtin, Sem.run_bind, Sem.run_pure, Result.andThen_ok, List.map_toArray, List.map_cons, List.map_nil, hs, hx, hr]
  exact hK _ _ (h v' w' h2 h3)
end

theorem heap_new2 (w : World) (o o' : Obj) : ((w.alloc o).alloc o').heap[w.heap.size + 1]? = some o' := by
  have := heap_new (w.alloc o) o'
  simpa using this
theorem named_cells_len (md : List NamedD) : ((md.map NamedD.cells).flatten).length = md.length * 4 := by
  induction md with
  | nil => rfl
  | cons a t ih => rw [List.map_cons, List.flatten_cons, List.length_append, ih, List.length_cons]; show 4 + _ = _; omega
theorem named_cells_one (md : List NamedD) : ∀ u ∈ (md.map NamedD.cells).flatten, u.oneCell' = true := by
  intro u hu
  rw [List.mem_flatten] at hu
  obtain ⟨l, hl, hu⟩ := hu
  rw [List.mem_map] at hl
  obtain ⟨a, -, rfl⟩ := hl
  simp only [NamedD.cells, IvalD.cells, List.mem_cons, List.not_mem_nil, or_false] at hu
  rcases hu with rfl | rfl | rfl | rfl <;> rfl
theorem named_cells_get (f : NamedD → NamedD) (md : List NamedD) : ∀ (j : Nat) (h : j < md.length) (i : Nat) (u : Value), (f md[j]).cells[i]? = some u → ((md.map fun n => (f n).cells).flatten)[j * 4 + i]? = some u := by
  induction md with
  | nil => intro j h; simp at h
  | cons a t ih =>
    intro j h i u hu
    have hi : i < 4 := by
      have := (List.getElem?_eq_some_iff.1 hu).1
      exact this
    rw [List.map_cons, List.flatten_cons]
    cases j with
    | zero =>
      rw [List.getElem?_append_left (by show _ < 4; omega), Nat.zero_mul, Nat.zero_add]
      exact hu
    | succ j =>
      rw [List.getElem?_append_right (by show 4 ≤ _; omega)]
      rw [show (j + 1) * 4 + i - (f a).cells.length = j * 4 + i by show _ - 4 = _; omega]
      exact ih j (by simpa using h) i u hu
theorem named_cells_at (md : List NamedD) (p : Nat) (u : Value) (h : (md.map NamedD.cells).flatten[p]? = some u) : ∃ (j : Nat) (hj : j < md.length) (i : Nat), p = j * 4 + i ∧ md[j].cells[i]? = some u := by
  have hp := (List.getElem?_eq_some_iff.1 h).1
  rw [named_cells_len] at hp
  have hj : p / 4 < md.length := by omega
  refine ⟨p / 4, hj, p % 4, by omega, ?_⟩
  have hlt : p % 4 < md[p / 4].cells.length := Nat.mod_lt _ (by decide)
  have := named_cells_get id md (p / 4) hj (p % 4) _ (List.getElem?_eq_getElem hlt)
  simp only [id] at this
  rw [show p / 4 * 4 + p % 4 = p by omega] at this
  rw [show (md.map fun n => n.cells).flatten = (md.map NamedD.cells).flatten from rfl] at this
  rw [h] at this
  rw [this]
  exact List.getElem?_eq_getElem hlt

/-- The row of the copy in the midst of the loop: plain up to k. -/
def MidRow (w : World) (B : Nat) (v : Value) (md : List NamedD) (k : Nat) : Prop :=
  (md = [] ∧ v = .slice none 0 0) ∨ ∃ g cap cs, v = .slice (some ⟨g, 0, none⟩) md.length cap ∧ B ≤ g ∧ md.length ≤ cap ∧ cap ≤ maxLen ∧ w.heap[g]? = some (.cells cs 94 (0, 0)) ∧ ∀ (j : Nat) (h : j < md.length) i u, (if j < k then plainN md[j] else md[j]).cells[i]? = some u → cs[j * 4 + i]? = some u
theorem MidRow.set {w : World} {B k p : Nat} {v : Value} {md : List NamedD} (h : MidRow w B v md k) (hp : p < B) (o : Nat) (u : Value) : MidRow (w.setCell ⟨p, o, none⟩ u) B v md k := by
  rcases h with h | ⟨g, cap, cs, h1, h2, h3, h4, h5, h6⟩
  · exact .inl h
  · exact .inr ⟨g, cap, cs, h1, h2, h3, h4, (heap_set_other (by omega) _ _).trans h5, h6⟩
theorem mid_of {w : World} {B : Nat} {v : Value} {md : List NamedD} (h : w.ownsRow B 94 4 v md.length (md.map NamedD.cells).flatten) : MidRow w B v md 0 := by
  rcases h.2 with ⟨rfl, h0⟩ | ⟨g, cap, cur, rfl, hb, hg, h1, h2, h3, h4⟩
  · exact .inl ⟨List.eq_nil_of_length_eq_zero h0, rfl⟩
  · refine .inr ⟨g, cap, cur, rfl, hb, h1, h2, hg, fun j hj i u hu => ?_⟩
    rw [if_neg (Nat.not_lt_zero _)] at hu
    have := h.cells (g := g) rfl (j * 4 + i) u (named_cells_get id md j hj i u hu)
    rw [Go.WideShapes.add_plain, cell_at hg, Nat.zero_add] at this
    exact this

theorem mid_end {w : World} {B : Nat} {v : Value} {md : List NamedD} (h : MidRow w B v md md.length) : ArgN w (fun k => B ≤ k) v (md.map plainN).length ((md.map plainN).map NamedD.cells).flatten := by
  rcases h with ⟨rfl, rfl⟩ | ⟨g, cap, cs, rfl, h2, h3, h4, h5, h6⟩
  · exact ⟨none, 0, rfl, Nat.le_refl _, Nat.zero_le _, .inl rfl⟩
  · refine ⟨_, cap, by rw [List.length_map], by rw [List.length_map]; exact h3, h4, .inr ⟨g, 0, rfl, h2, fun i u hi => ?_⟩⟩
    obtain ⟨j, hj, i', rfl, hu⟩ := named_cells_at _ _ _ hi
    have hj' : j < md.length := by simpa using hj
    rw [List.getElem_map] at hu
    rw [Nat.zero_add, cell_at h5]
    exact h6 j hj' i' u (by rw [if_pos hj']; exact hu)
theorem MidRow.next_keep {w : World} {B k : Nat} {v : Value} {md : List NamedD} (h : MidRow w B v md k) (hlt : k < md.length) (hs : plainN md[k] = md[k]) : MidRow w B v md (k + 1) := by
  rcases h with h | ⟨g, cap, cs, h1, h2, h3, h4, h5, h6⟩
  · exact .inl h
  · refine .inr ⟨g, cap, cs, h1, h2, h3, h4, h5, fun j hj i u hu => h6 j hj i u ?_⟩
    rcases Nat.lt_trichotomy j k with hjk | rfl | hjk
    · rw [if_pos hjk]; rwa [if_pos (by omega)] at hu
    · rw [if_neg (by omega)]; rw [if_pos (by omega), hs] at hu; exact hu
    · rw [if_neg (by omega)]; rwa [if_neg (by omega)] at hu
theorem mid_store {w : World} {B k g cap : Nat} {cs : Array Value} {md : List NamedD} (h2 : B ≤ g) (h3 : md.length ≤ cap) (h4 : cap ≤ maxLen) (h5 : w.heap[g]? = some (.cells cs 94 (0, 0)))
    (h6 : ∀ (j : Nat) (h : j < md.length) i u, (if j < k then plainN md[j] else md[j]).cells[i]? = some u → cs[j * 4 + i]? = some u) (hlt : k < md.length) (hs : md[k].v.some = false) :
    MidRow (((w.setCell ⟨g, k * 4 + 1, none⟩ (.bool false)).setCell ⟨g, k * 4 + 1 + 1, none⟩ (.int .i64 0)).setCell ⟨g, k * 4 + 1 + 2, none⟩ (.int .i64 0)) B (.slice (some ⟨g, 0, none⟩) md.length cap) md (k + 1) := by
  refine .inr ⟨g, cap, _, rfl, h2, h3, h4, heap_set (heap_set (heap_set h5 _ _) _ _) _ _, fun j hj i u hu => ?_⟩
  have hi : i < 4 := by
    have := (List.getElem?_eq_some_iff.1 hu).1
    exact this
  have hsz : k * 4 + 3 < cs.size := by
    have := h6 k hlt 3 (.int .i64 md[k].v.hi) (by rw [if_neg (Nat.lt_irrefl k)]; rfl)
    exact (Array.getElem?_eq_some_iff.1 this).1
  simp only [Array.getElem?_setIfInBounds, Array.size_setIfInBounds]
  by_cases hjk : j = k
  · subst hjk
    rw [if_pos (by omega)] at hu
    have hp : plainN md[j] = ⟨md[j].name, ⟨false, 0, 0⟩⟩ := by unfold plainN plainI; rw [hs]; rfl
    rw [hp] at hu
    match i, hi with
    | 0, _ =>
      rw [if_neg (by omega), if_neg (by omega), if_neg (by omega)]
      exact h6 j hj 0 u (by rw [if_neg (Nat.lt_irrefl j)]; exact hu)
    | 1, _ =>
      rw [if_neg (by omega), if_neg (by omega), if_pos (by omega), if_pos (by omega)]
      exact hu
    | 2, _ =>
      rw [if_neg (by omega), if_pos (by omega), if_pos (by omega)]
      exact hu
    | 3, _ =>
      rw [if_pos (by omega), if_pos (by omega)]
      exact hu
  · rw [if_neg (by omega), if_neg (by omega), if_neg (by omega)]
    refine h6 j hj i u ?_
    by_cases hlt2 : j < k
    · rw [if_pos hlt2]; rwa [if_pos (by omega)] at hu
    · rw [if_neg hlt2]; rwa [if_neg (by omega)] at hu

/-- A summary's value, its lists in blocks of which S holds. -/
def SumW (w : World) (S : Nat → Prop) (v : Value) (s : SumD) : Prop :=
  ∃ va vm, v = .agg #[va, .bool s.ends, .bool s.ret.some, .int .i64 s.ret.lo, .int .i64 s.ret.hi, vm] ∧ ArgN w S va s.alarms.length (s.alarms.map AlarmD.cells).flatten ∧ ArgN w S vm s.mod.length (s.mod.map NamedD.cells).flatten
theorem SumW.val {w : World} {S : Nat → Prop} {v : Value} {s : SumD} (h : SumW w S v s) : SumV w v s := by
  obtain ⟨va, vm, h1, h2, h3⟩ := h
  exact ⟨va, vm, h1, h2.mono fun _ _ _ => trivial, h3.mono fun _ _ _ => trivial⟩
theorem SumW.upd {w w' : World} {S F : Nat → Prop} {v : Value} {s : SumD} (h : SumW w S v s) (hu : Upd F w w') (hS : ∀ k, S k → ¬ F k) : SumW w' S v s := by
  obtain ⟨va, vm, h1, h2, h3⟩ := h
  exact ⟨va, vm, h1, h2.upd hu hS, h3.upd hu hS⟩
theorem SumW.mono {w : World} {S S' : Nat → Prop} {v : Value} {s : SumD} (h : SumW w S v s) (hS : ∀ k, k < w.heap.size → S k → S' k) : SumW w S' v s := by
  obtain ⟨va, vm, h1, h2, h3⟩ := h
  exact ⟨va, vm, h1, h2.mono hS, h3.mono hS⟩
theorem SumAt.word {w : World} {base : Nat} {v : Value} {s : SumD} (h : SumAt w base v s) : SumW w (fun k => base ≤ k) v s := by
  obtain ⟨va, vm, h1, h2, h3⟩ := h
  exact ⟨va, vm, h1, (own_argN h2).mono fun k _ hk => (World.ownsRow.lt h2 k hk).1, (own_argN h3).mono fun k _ hk => (World.ownsRow.lt h3 k hk).1⟩

set_option maxRecDepth 100000 in
set_option maxHeartbeats 1600000 in
theorem plain_any (S : Nat → Prop) (xa xm : Value) (s : SumD) (w : World) (hxa : ArgN w S xa s.alarms.length (s.alarms.map AlarmD.cells).flatten) (hxm : ArgN w S xm s.mod.length (s.mod.map NamedD.cells).flatten) (hl : s.light) :
    Calls Try.prog 34 #[.agg #[xa, .bool s.ends, .bool s.ret.some, .int .i64 s.ret.lo, .int .i64 s.ret.hi, xm]] w fun e w' => Below w.heap.size w w' ∧ ∃ v, e = .returned v ∧ SumW w' (fun k => S k ∨ w.heap.size ≤ k) v (plainS s) := by
  obtain ⟨al, ends, ⟨sm, lo, hi⟩, md⟩ := s
  obtain ⟨Aa, ca, rfl, hna⟩ := hxa.slice
  obtain ⟨Am, cm, rfl, hnm⟩ := hxm.slice
  simp only at hxa hxm hna hnm
  obtain ⟨i0, hi0, hz0, hz1, hz2⟩ := info_parts named_info
  have hl2 := hide hl.2.1
  simp only at hl2
  replace hxa := hide hxa
  replace hxm := hide hxm
  replace hi0 := hide hi0
  replace hz0 := hide hz0
  replace hz1 := hide hz1
  replace hz2 := hide hz2
  replace hl := hide hl
  cases sm
  · go_enter Try.func34, Try.ntmps34
    go_wp2_with (
      at_builtin
      refine wp_copy rfl _ (.tmp 11) 33 rfl 94 i0 (.agg #[.string .empty, .bool false, .int .i64 0, .int .i64 0]) 4 40 Try.underlying33 hi0.out hz0.out hz1.out hz2.out rfl (by decide) rfl S _ md.length ((md.map NamedD.cells).flatten) rfl ?_ ?_ ?_ ?_ ?_
      · exact hxm.out.upd (.of_below (fun _ => False) (((Below.refl _ w).alloc (Nat.le_refl _) _).alloc (by simp) _)) fun _ _ => id
      · exact named_cells_len md
      · exact named_cells_one md
      · have := hl2.out; omega
      intro v3 w3 he3 hb3
      have hs1 : ∀ o1 o2 : Obj, ((w.alloc o1).alloc o2).heap.size = w.heap.size + 2 := fun _ _ => by simp
      have hx1 := (hb3.block w.heap.size (by rw [hs1]; omega)).trans (heap_old (heap_new _ _) _)
      have hx2 := (hb3.block (w.heap.size + 1) (by rw [hs1]; omega)).trans (heap_new2 _ _ _)
      have hw3 : Below w.heap.size w w3 := (((Below.refl _ w).alloc (Nat.le_refl _) _).alloc (by simp) _).trans (hb3.mono (by simp; omega))
      have hm3 := mid_of he3
      rw [hs1] at hm3
      obtain ⟨A3, c3, rfl⟩ := own_slice he3
      have d5 : w3.cell? ⟨w.heap.size, 5, none⟩ = some (.slice Am md.length cm) := by rw [cell_at hx1]; rfl
      have f5 := frozen_at hx1 5
      clear hs1 he3 hb3
      replace hx1 := hide hx1
      replace hx2 := hide hx2
      replace hw3 := hide hw3
      replace hm3 := hide hm3)
    have hx4 := hide (show (w3.setCell ⟨w.heap.size, 5, none⟩ (.slice A3 md.length c3)).heap[w.heap.size]? = some (.cells #[.slice Aa al.length ca, .bool ends, .bool false, .int .i64 0, .int .i64 0, .slice A3 md.length c3] 35) from by rw [heap_set hx1.out]; rfl)
    have hy4 := hide (show (w3.setCell ⟨w.heap.size, 5, none⟩ (.slice A3 md.length c3)).heap[w.heap.size + 1]? = _ from (heap_set_other (by omega) _ _).trans hx2.out)
    have hw4 := hide (show Below w.heap.size w (w3.setCell ⟨w.heap.size, 5, none⟩ (.slice A3 md.length c3)) from ((Upd.of_below (fun k => w.heap.size ≤ k) hw3.out).then (.set w3 (a := ⟨w.heap.size, 5, none⟩) (Nat.le_refl _) _)).below (Nat.le_refl _) fun _ h => h)
    have hm4 := hide (hm3.out.set (p := w.heap.size) (by omega) 5 (.slice A3 md.length c3))
    generalize w3.setCell ⟨w.heap.size, 5, none⟩ (.slice A3 md.length c3) = w4 at *
    clear hx1 hx2 hw3 hm3 d5 f5
    go_loopw [3] (fun i wr => ∃ k : Nat, k ≤ md.length ∧ i = .int .i64 k ∧ Below w.heap.size w wr ∧ wr.heap[w.heap.size]? = some (.cells #[.slice Aa al.length ca, .bool ends, .bool false, .int .i64 0, .int .i64 0, .slice A3 md.length c3] 35) ∧ wr.heap[w.heap.size + 1]? = some (.cells #[.slice none 0 0, .bool false, .bool false, .int .i64 0, .int .i64 0, .slice none 0 0] 35) ∧ MidRow wr (w.heap.size + 2) (.slice A3 md.length c3) md k) (fun i _ => md.length - (intOf i).toNat)
    case atStart => exact ⟨0, Nat.zero_le _, rfl, hw4.out, hx4.out, hy4.out, hm4.out⟩
    case round =>
      clear hw4 hx4 hy4 hm4
      obtain ⟨k, hk, rfl, hw, hx, hy, hm⟩ := hrel
      have e5 : wr.cell? ⟨w.heap.size, 5, none⟩ = some (.slice A3 md.length c3) := by rw [cell_at hx]; rfl
      by_cases hlt : k < md.length
      · obtain ⟨h0, -⟩ | ⟨g, cap, cs, hv, h2, h3, h4, h5, h6⟩ := hm
        · subst h0; simp at hlt
        injection hv with hA _ hC
        rw [hA, hC] at e5
        obtain ⟨nm, ⟨b, l1, u1⟩, hn⟩ : ∃ nm v, md[k] = ⟨nm, v⟩ := ⟨_, _, rfl⟩
        have q1 : wr.cell? ⟨g, k * 4 + 1, none⟩ = some (.bool b) := by rw [cell_at h5]; exact h6 k hlt 1 _ (by rw [if_neg (Nat.lt_irrefl k), hn]; rfl)
        have q2 : wr.cell? ⟨g, k * 4 + 1 + 1, none⟩ = some (.int .i64 l1) := by rw [cell_at h5]; exact h6 k hlt 2 _ (by rw [if_neg (Nat.lt_irrefl k), hn]; rfl)
        have q3 : wr.cell? ⟨g, k * 4 + 1 + 2, none⟩ = some (.int .i64 u1) := by rw [cell_at h5]; exact h6 k hlt 3 _ (by rw [if_neg (Nat.lt_irrefl k), hn]; rfl)
        have g1 := frozen_at h5 (k * 4 + 1)
        have g2 := frozen_at h5 (k * 4 + 1 + 1)
        have g3 := frozen_at h5 (k * 4 + 1 + 2)
        have hl2' := hl2.out
        have hn2 : md.length < 4294967296 := by omega
        replace hx := hide hx
        replace hy := hide hy
        replace hw := hide hw
        replace h5 := hide h5
        replace h6 := hide h6
        replace hn := hide hn
        replace hA := hide hA
        replace hC := hide hC
        replace h2 := hide h2
        cases b
        · go_wp2_with fail
          go_roundw
          case rel =>
            have hg1 : w.heap.size ≠ g := by have := h2.out; omega
            have hg2 : w.heap.size + 1 ≠ g := by have := h2.out; omega
            have hg0 : w.heap.size ≤ g := by have := h2.out; omega
            refine ⟨k + 1, by omega, by go_num, ?_, ?_, ?_, ?_⟩
            · exact ((((Upd.of_below (fun _ => False) hw.out).setNew (a := ⟨g, k * 4 + 1, none⟩) hg0 _).setNew (a := ⟨g, k * 4 + 1 + 1, none⟩) hg0 _).setNew (a := ⟨g, k * 4 + 1 + 2, none⟩) hg0 _).below (Nat.le_refl _) fun _ h => h.elim
            · exact (heap_set_other hg1 _ _).trans ((heap_set_other hg1 _ _).trans ((heap_set_other hg1 _ _).trans hx.out))
            · exact (heap_set_other hg2 _ _).trans ((heap_set_other hg2 _ _).trans ((heap_set_other hg2 _ _).trans hy.out))
            · rw [hA.out, hC.out]
              exact mid_store h2.out h3 h4 h5.out h6.out hlt (by rw [hn.out])
          case measure => simp [intOf]; omega
        · go_wp2_with fail
          go_roundw
          case rel => 
            refine ⟨k + 1, by omega, by go_num, hw.out, hx.out, hy.out, ?_⟩
            refine MidRow.next_keep (.inr ⟨g, cap, cs, ?_, h2.out, h3, h4, h5.out, h6.out⟩) hlt (by rw [hn.out]; rfl)
            rw [hA.out, hC.out]
          case measure => simp [intOf]; omega
      · obtain rfl : k = md.length := by omega
        have e0 : wr.cell? ⟨w.heap.size, 0, none⟩ = some (.slice Aa al.length ca) := by rw [cell_at hx]; rfl
        have e1 : wr.cell? ⟨w.heap.size, 1, none⟩ = some (.bool ends) := by rw [cell_at hx]; rfl
        have e2 : wr.cell? ⟨w.heap.size, 2, none⟩ = some (.bool false) := by rw [cell_at hx]; rfl
        have e3 : wr.cell? ⟨w.heap.size, 3, none⟩ = some (.int .i64 0) := by rw [cell_at hx]; rfl
        have e4 : wr.cell? ⟨w.heap.size, 4, none⟩ = some (.int .i64 0) := by rw [cell_at hx]; rfl
        have z0 : wr.cell? ⟨w.heap.size + 1, 0, none⟩ = some (.slice none 0 0) := by rw [cell_at hy]; rfl
        have z1 : wr.cell? ⟨w.heap.size + 1, 1, none⟩ = some (.bool false) := by rw [cell_at hy]; rfl
        have z2 : wr.cell? ⟨w.heap.size + 1, 2, none⟩ = some (.bool false) := by rw [cell_at hy]; rfl
        have z3 : wr.cell? ⟨w.heap.size + 1, 3, none⟩ = some (.int .i64 0) := by rw [cell_at hy]; rfl
        have z4 : wr.cell? ⟨w.heap.size + 1, 4, none⟩ = some (.int .i64 0) := by rw [cell_at hy]; rfl
        have z5 : wr.cell? ⟨w.heap.size + 1, 5, none⟩ = some (.slice none 0 0) := by rw [cell_at hy]; rfl
        have y0 := frozen_at hy 0
        have y1 := frozen_at hy 1
        have y2 := frozen_at hy 2
        have y3 := frozen_at hy 3
        have y4 := frozen_at hy 4
        have y5 := frozen_at hy 5
        replace hx := hide hx
        replace hy := hide hy
        replace hw := hide hw
        replace hm := hide hm
        go_wp2_with fail
        refine bodyPost_ret (v := .agg #[.slice Aa al.length ca, .bool ends, .bool false, .int .i64 0, .int .i64 0, .slice A3 md.length c3]) (by simp [results, Try.results34, go_sem, z0, z1, z2, z3, z4, z5]) rfl ?_
        have hB := ((((((Upd.of_below (fun _ => False) hw.out).setNew (a := ⟨w.heap.size + 1, 0, none⟩) (Nat.le_succ _) (.slice Aa al.length ca)).setNew (a := ⟨w.heap.size + 1, 1, none⟩) (Nat.le_succ _) (.bool ends)).setNew (a := ⟨w.heap.size + 1, 2, none⟩) (Nat.le_succ _) (.bool false)).setNew (a := ⟨w.heap.size + 1, 3, none⟩) (Nat.le_succ _) (.int .i64 0)).setNew (a := ⟨w.heap.size + 1, 4, none⟩) (Nat.le_succ _) (.int .i64 0)).setNew (a := ⟨w.heap.size + 1, 5, none⟩) (Nat.le_succ _) (.slice A3 md.length c3)
        have hM := (((((hm.out.set (p := w.heap.size + 1) (Nat.lt_succ_self _) 0 (.slice Aa al.length ca)).set (p := w.heap.size + 1) (Nat.lt_succ_self _) 1 (.bool ends)).set (p := w.heap.size + 1) (Nat.lt_succ_self _) 2 (.bool false)).set (p := w.heap.size + 1) (Nat.lt_succ_self _) 3 (.int .i64 0)).set (p := w.heap.size + 1) (Nat.lt_succ_self _) 4 (.int .i64 0)).set (p := w.heap.size + 1) (Nat.lt_succ_self _) 5 (.slice A3 md.length c3)
        exact ⟨hB.below (Nat.le_refl _) fun _ h => h.elim, _, rfl, _, _, rfl, (hxa.out.upd hB fun _ _ => id).mono fun _ _ h => .inl h, (mid_end hM).mono fun k _ h => .inr (by omega)⟩
  · go_enter Try.func34, Try.ntmps34
    go_wp2_with (
      at_builtin
      refine wp_copy rfl _ (.tmp 11) 33 rfl 94 i0 (.agg #[.string .empty, .bool false, .int .i64 0, .int .i64 0]) 4 40 Try.underlying33 hi0.out hz0.out hz1.out hz2.out rfl (by decide) rfl S _ md.length ((md.map NamedD.cells).flatten) rfl ?_ ?_ ?_ ?_ ?_
      · exact hxm.out.upd (.of_below (fun _ => False) (((Below.refl _ w).alloc (Nat.le_refl _) _).alloc (by simp) _)) fun _ _ => id
      · exact named_cells_len md
      · exact named_cells_one md
      · have := hl2.out; omega
      intro v3 w3 he3 hb3
      have hs1 : ∀ o1 o2 : Obj, ((w.alloc o1).alloc o2).heap.size = w.heap.size + 2 := fun _ _ => by simp
      have hx1 := (hb3.block w.heap.size (by rw [hs1]; omega)).trans (heap_old (heap_new _ _) _)
      have hx2 := (hb3.block (w.heap.size + 1) (by rw [hs1]; omega)).trans (heap_new2 _ _ _)
      have hw3 : Below w.heap.size w w3 := (((Below.refl _ w).alloc (Nat.le_refl _) _).alloc (by simp) _).trans (hb3.mono (by simp; omega))
      have hm3 := mid_of he3
      rw [hs1] at hm3
      obtain ⟨A3, c3, rfl⟩ := own_slice he3
      have d5 : w3.cell? ⟨w.heap.size, 5, none⟩ = some (.slice Am md.length cm) := by rw [cell_at hx1]; rfl
      have f5 := frozen_at hx1 5
      clear hs1 he3 hb3
      replace hx1 := hide hx1
      replace hx2 := hide hx2
      replace hw3 := hide hw3
      replace hm3 := hide hm3)
    have hx4 := hide (show (w3.setCell ⟨w.heap.size, 5, none⟩ (.slice A3 md.length c3)).heap[w.heap.size]? = some (.cells #[.slice Aa al.length ca, .bool ends, .bool true, .int .i64 lo, .int .i64 hi, .slice A3 md.length c3] 35) from by rw [heap_set hx1.out]; rfl)
    have hy4 := hide (show (w3.setCell ⟨w.heap.size, 5, none⟩ (.slice A3 md.length c3)).heap[w.heap.size + 1]? = _ from (heap_set_other (by omega) _ _).trans hx2.out)
    have hw4 := hide (show Below w.heap.size w (w3.setCell ⟨w.heap.size, 5, none⟩ (.slice A3 md.length c3)) from ((Upd.of_below (fun k => w.heap.size ≤ k) hw3.out).then (.set w3 (a := ⟨w.heap.size, 5, none⟩) (Nat.le_refl _) _)).below (Nat.le_refl _) fun _ h => h)
    have hm4 := hide (hm3.out.set (p := w.heap.size) (by omega) 5 (.slice A3 md.length c3))
    generalize w3.setCell ⟨w.heap.size, 5, none⟩ (.slice A3 md.length c3) = w4 at *
    clear hx1 hx2 hw3 hm3 d5 f5
    go_loopw [3] (fun i wr => ∃ k : Nat, k ≤ md.length ∧ i = .int .i64 k ∧ Below w.heap.size w wr ∧ wr.heap[w.heap.size]? = some (.cells #[.slice Aa al.length ca, .bool ends, .bool true, .int .i64 lo, .int .i64 hi, .slice A3 md.length c3] 35) ∧ wr.heap[w.heap.size + 1]? = some (.cells #[.slice none 0 0, .bool false, .bool false, .int .i64 0, .int .i64 0, .slice none 0 0] 35) ∧ MidRow wr (w.heap.size + 2) (.slice A3 md.length c3) md k) (fun i _ => md.length - (intOf i).toNat)
    case atStart => exact ⟨0, Nat.zero_le _, rfl, hw4.out, hx4.out, hy4.out, hm4.out⟩
    case round =>
      clear hw4 hx4 hy4 hm4
      obtain ⟨k, hk, rfl, hw, hx, hy, hm⟩ := hrel
      have e5 : wr.cell? ⟨w.heap.size, 5, none⟩ = some (.slice A3 md.length c3) := by rw [cell_at hx]; rfl
      by_cases hlt : k < md.length
      · obtain ⟨h0, -⟩ | ⟨g, cap, cs, hv, h2, h3, h4, h5, h6⟩ := hm
        · subst h0; simp at hlt
        injection hv with hA _ hC
        rw [hA, hC] at e5
        obtain ⟨nm, ⟨b, l1, u1⟩, hn⟩ : ∃ nm v, md[k] = ⟨nm, v⟩ := ⟨_, _, rfl⟩
        have q1 : wr.cell? ⟨g, k * 4 + 1, none⟩ = some (.bool b) := by rw [cell_at h5]; exact h6 k hlt 1 _ (by rw [if_neg (Nat.lt_irrefl k), hn]; rfl)
        have q2 : wr.cell? ⟨g, k * 4 + 1 + 1, none⟩ = some (.int .i64 l1) := by rw [cell_at h5]; exact h6 k hlt 2 _ (by rw [if_neg (Nat.lt_irrefl k), hn]; rfl)
        have q3 : wr.cell? ⟨g, k * 4 + 1 + 2, none⟩ = some (.int .i64 u1) := by rw [cell_at h5]; exact h6 k hlt 3 _ (by rw [if_neg (Nat.lt_irrefl k), hn]; rfl)
        have g1 := frozen_at h5 (k * 4 + 1)
        have g2 := frozen_at h5 (k * 4 + 1 + 1)
        have g3 := frozen_at h5 (k * 4 + 1 + 2)
        have hl2' := hl2.out
        have hn2 : md.length < 4294967296 := by omega
        replace hx := hide hx
        replace hy := hide hy
        replace hw := hide hw
        replace h5 := hide h5
        replace h6 := hide h6
        replace hn := hide hn
        replace hA := hide hA
        replace hC := hide hC
        replace h2 := hide h2
        cases b
        · go_wp2_with fail
          go_roundw
          case rel =>
            have hg1 : w.heap.size ≠ g := by have := h2.out; omega
            have hg2 : w.heap.size + 1 ≠ g := by have := h2.out; omega
            have hg0 : w.heap.size ≤ g := by have := h2.out; omega
            refine ⟨k + 1, by omega, by go_num, ?_, ?_, ?_, ?_⟩
            · exact ((((Upd.of_below (fun _ => False) hw.out).setNew (a := ⟨g, k * 4 + 1, none⟩) hg0 _).setNew (a := ⟨g, k * 4 + 1 + 1, none⟩) hg0 _).setNew (a := ⟨g, k * 4 + 1 + 2, none⟩) hg0 _).below (Nat.le_refl _) fun _ h => h.elim
            · exact (heap_set_other hg1 _ _).trans ((heap_set_other hg1 _ _).trans ((heap_set_other hg1 _ _).trans hx.out))
            · exact (heap_set_other hg2 _ _).trans ((heap_set_other hg2 _ _).trans ((heap_set_other hg2 _ _).trans hy.out))
            · rw [hA.out, hC.out]
              exact mid_store h2.out h3 h4 h5.out h6.out hlt (by rw [hn.out])
          case measure => simp [intOf]; omega
        · go_wp2_with fail
          go_roundw
          case rel => 
            refine ⟨k + 1, by omega, by go_num, hw.out, hx.out, hy.out, ?_⟩
            refine MidRow.next_keep (.inr ⟨g, cap, cs, ?_, h2.out, h3, h4, h5.out, h6.out⟩) hlt (by rw [hn.out]; rfl)
            rw [hA.out, hC.out]
          case measure => simp [intOf]; omega
      · obtain rfl : k = md.length := by omega
        have e0 : wr.cell? ⟨w.heap.size, 0, none⟩ = some (.slice Aa al.length ca) := by rw [cell_at hx]; rfl
        have e1 : wr.cell? ⟨w.heap.size, 1, none⟩ = some (.bool ends) := by rw [cell_at hx]; rfl
        have e2 : wr.cell? ⟨w.heap.size, 2, none⟩ = some (.bool true) := by rw [cell_at hx]; rfl
        have e3 : wr.cell? ⟨w.heap.size, 3, none⟩ = some (.int .i64 lo) := by rw [cell_at hx]; rfl
        have e4 : wr.cell? ⟨w.heap.size, 4, none⟩ = some (.int .i64 hi) := by rw [cell_at hx]; rfl
        have z0 : wr.cell? ⟨w.heap.size + 1, 0, none⟩ = some (.slice none 0 0) := by rw [cell_at hy]; rfl
        have z1 : wr.cell? ⟨w.heap.size + 1, 1, none⟩ = some (.bool false) := by rw [cell_at hy]; rfl
        have z2 : wr.cell? ⟨w.heap.size + 1, 2, none⟩ = some (.bool false) := by rw [cell_at hy]; rfl
        have z3 : wr.cell? ⟨w.heap.size + 1, 3, none⟩ = some (.int .i64 0) := by rw [cell_at hy]; rfl
        have z4 : wr.cell? ⟨w.heap.size + 1, 4, none⟩ = some (.int .i64 0) := by rw [cell_at hy]; rfl
        have z5 : wr.cell? ⟨w.heap.size + 1, 5, none⟩ = some (.slice none 0 0) := by rw [cell_at hy]; rfl
        have y0 := frozen_at hy 0
        have y1 := frozen_at hy 1
        have y2 := frozen_at hy 2
        have y3 := frozen_at hy 3
        have y4 := frozen_at hy 4
        have y5 := frozen_at hy 5
        replace hx := hide hx
        replace hy := hide hy
        replace hw := hide hw
        replace hm := hide hm
        go_wp2_with fail
        refine bodyPost_ret (v := .agg #[.slice Aa al.length ca, .bool ends, .bool true, .int .i64 lo, .int .i64 hi, .slice A3 md.length c3]) (by simp [results, Try.results34, go_sem, z0, z1, z2, z3, z4, z5]) rfl ?_
        have hB := ((((((Upd.of_below (fun _ => False) hw.out).setNew (a := ⟨w.heap.size + 1, 0, none⟩) (Nat.le_succ _) (.slice Aa al.length ca)).setNew (a := ⟨w.heap.size + 1, 1, none⟩) (Nat.le_succ _) (.bool ends)).setNew (a := ⟨w.heap.size + 1, 2, none⟩) (Nat.le_succ _) (.bool true)).setNew (a := ⟨w.heap.size + 1, 3, none⟩) (Nat.le_succ _) (.int .i64 lo)).setNew (a := ⟨w.heap.size + 1, 4, none⟩) (Nat.le_succ _) (.int .i64 hi)).setNew (a := ⟨w.heap.size + 1, 5, none⟩) (Nat.le_succ _) (.slice A3 md.length c3)
        have hM := (((((hm.out.set (p := w.heap.size + 1) (Nat.lt_succ_self _) 0 (.slice Aa al.length ca)).set (p := w.heap.size + 1) (Nat.lt_succ_self _) 1 (.bool ends)).set (p := w.heap.size + 1) (Nat.lt_succ_self _) 2 (.bool true)).set (p := w.heap.size + 1) (Nat.lt_succ_self _) 3 (.int .i64 lo)).set (p := w.heap.size + 1) (Nat.lt_succ_self _) 4 (.int .i64 hi)).set (p := w.heap.size + 1) (Nat.lt_succ_self _) 5 (.slice A3 md.length c3)
        exact ⟨hB.below (Nat.le_refl _) fun _ h => h.elim, _, rfl, _, _, rfl, (hxa.out.upd hB fun _ _ => id).mono fun _ _ h => .inl h, (mid_end hM).mono fun k _ h => .inr (by omega)⟩
end Go.Proofs.Ytdjkjeaoeolieaa
