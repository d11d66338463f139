/- Part 15 of the walks (merged): GPsK, GPsL, GLxF, GLxG0, GLxG1, GLxG2, GLxG3, GLxG4. -/
import Derived.Test.YtiiihpokpfhclaaDoorMs13
import Derived.Test.YtiiihpokpfhclaaDoorMs8
import Derived.OwnWalk
/- Blocks of statements in memory; what a list of statements comes to. -/
namespace Go.Proofs.YtiiihpokpfhclaaDoor
open Go Go.RowKit Go.Lib

/-- A block's statements in memory. -/
def BlkV (w : World) (S : Nat → Prop) (l : List Sm) (v : Value) : Prop := ∃ uss, SlcV w S l.length uss v ∧ SmsV w S l uss
section
variable {w w' : World} {S S' F : Nat → Prop}
theorem BlkV.upd (hu : Upd F w w') (hS : ∀ b, S b → ¬ F b) (l : List Sm) (v : Value) (h : BlkV w S l v) : BlkV w' S l v := by
  obtain ⟨uss, h1, h2⟩ := h
  exact ⟨uss, h1.upd hu hS, SmsV.upd hu hS _ _ h2⟩
theorem BlkV.mono (hS : ∀ b, b < w.heap.size → S b → S' b) (l : List Sm) (v : Value) (h : BlkV w S l v) : BlkV w S' l v := by
  obtain ⟨uss, h1, h2⟩ := h
  exact ⟨uss, h1.mono hS (sms_ne h2), SmsV.mono hS _ _ h2⟩
theorem BlkV.slc {l : List Sm} {v : Value} (h : BlkV w S l v) : ∃ A m c, v = .slice A m c := by
  obtain ⟨uss, h1, -⟩ := h
  exact h1.slc
theorem BlkV.nil_ (w : World) (S : Nat → Prop) : BlkV w S [] (.slice none 0 0) := ⟨[], slc_nil w S, by unfold SmsV; rfl⟩
theorem sm_blk {k : Nat} {c : Option Cn} {t e : List Sm} {a : Nat} {vc vt ve : Value} (hc : OptC w S c vc) (ht : BlkV w S t vt) (he : BlkV w S e ve) :
    SmV w S (.mk k [] [] none none c [] t e a) [.int .i64 k, .string (strB []), .string (strB []), .pointer none, .pointer none, vc, .slice none 0 0, vt, ve, .int .i64 a] := by
  obtain ⟨ut, h1, h2⟩ := ht
  obtain ⟨ue, h3, h4⟩ := he
  unfold SmV
  exact ⟨_, _, vc, _, vt, ve, ut, ue, rfl, rfl, rfl, hc, list_nil w S, h1, h2, h3, h4⟩
end
theorem stmt_info : (Tryd.prog.info? 38).map (fun i => (i.zero, i.size, i.bytes)) = some (some (.agg #[.int .i64 0, .string .empty, .string .empty, .pointer none, .pointer none, .pointer none, .slice none 0 0, .slice none 0 0, .slice none 0 0, .int .i64 0]), 10, 144) := by kernel_rfl
theorem stms_end {s : Nat → List Tok → Rs (Sm × Nat)} {g : Nat} {l : List Sm} {n : Nat} {r : List Tok} (h : nx r [125] = true) : stmsOf s (g + 1) l n r = .ok (l, n) r.tail := by
  conv => lhs; unfold stmsOf
  rw [if_pos h]
theorem stms_more {s : Nat → List Tok → Rs (Sm × Nat)} {g : Nat} {l : List Sm} {n : Nat} {r : List Tok} (h : nx r [125] = false) : stmsOf s (g + 1) l n r = (s n r).bind fun x r => stmsOf s g (l ++ [x.1]) x.2 r := by
  conv => lhs; unfold stmsOf
  rw [if_neg (by rw [h]; exact Bool.false_ne_true)]
/-- A declared variable's cells. -/
def VarP (_ : World) (_ : Nat → Prop) (a : Vr) (us : List Value) : Prop := us = [.string (strB a.name), .bool a.ptr]
theorem varFam : Fam VarP where
  upd := fun _ _ h => h
  mono := fun _ h => h
  one := fun h u hu => by
    subst h
    simp only [List.mem_cons, List.not_mem_nil, or_false] at hu
    rcases hu with rfl | rfl <;> rfl
theorem var_info : (Tryd.prog.info? 95).map (fun i => (i.zero, i.size, i.bytes)) = some (some (.agg #[.string .empty, .bool false]), 2, 24) := by kernel_rfl
end Go.Proofs.YtiiihpokpfhclaaDoor
/- A function in memory; what reading a text comes to. -/
namespace Go.Proofs.YtiiihpokpfhclaaDoor
open Go Go.RowKit Go.Lib

/-- A function is told. -/
def FnV (w : World) (B : Nat) (a : Fn7) (v : Value) : Prop :=
  ∃ (A1 : Option Addr) (n1 c1 : Nat) (A2 : Option Addr) (n2 c2 : Nat) (A3 : Option Addr) (n3 c3 : Nat), v = .agg #[.string (strB a.name), .slice A1 n1 c1, .slice A2 n2 c2, .slice A3 n3 c3] ∧
    ListV w (B ≤ ·) VarP 2 a.params (.slice A1 n1 c1) ∧ ListV w (B ≤ ·) VarP 2 a.locals (.slice A2 n2 c2) ∧ BlkV w (B ≤ ·) a.body (.slice A3 n3 c3)
theorem FnV.upd {w w' : World} {B : Nat} {F : Nat → Prop} {a : Fn7} {v : Value} (hu : Upd F w w') (hF : ∀ b, B ≤ b → ¬ F b) (h : FnV w B a v) : FnV w' B a v := by
  obtain ⟨A1, n1, c1, A2, n2, c2, A3, n3, c3, h1, h2, h3, h4⟩ := h
  exact ⟨A1, n1, c1, A2, n2, c2, A3, n3, c3, h1, h2.upd varFam hu hF, h3.upd varFam hu hF, BlkV.upd hu hF _ _ h4⟩
theorem FnV.mono {w : World} {B B' : Nat} {a : Fn7} {v : Value} (hB : B' ≤ B) (h : FnV w B a v) : FnV w B' a v := by
  obtain ⟨A1, n1, c1, A2, n2, c2, A3, n3, c3, h1, h2, h3, h4⟩ := h
  exact ⟨A1, n1, c1, A2, n2, c2, A3, n3, c3, h1, h2.mono varFam (fun b _ hb => Nat.le_trans hB hb) (by decide), h3.mono varFam (fun b _ hb => Nat.le_trans hB hb) (by decide), BlkV.mono (fun b _ hb => Nat.le_trans hB hb) _ _ h4⟩
/-- What reading a text comes to. -/
def TextR {α : Type} (W : World) (z : Value) (V : World → Nat → α → Value → Prop) (x : Option (Except (Nat × Nat) α)) (e : Ending) (w' : World) : Prop :=
  Below W.heap.size W w' ∧ match x with
    | none => False
    | some (.ok a) => ∃ v, e = .returned (.tuple #[v, .int .i64 0, .int .i64 0]) ∧ V w' W.heap.size a v
    | some (.error (a, n)) => e = .returned (.tuple #[z, .int .i64 a, .int .i64 n])
theorem setCell_id {w : World} {g o : Nat} {cs : Array Value} {t : TypeId} {v : Value} (h : w.heap[g]? = some (.cells cs t (0, 0))) (hv : cs[o]? = some v) : w.setCell ⟨g, o, none⟩ v = w := by
  have key : w.heap.modify g (fun
      | .cells c elem frozen => .cells (c.setIfInBounds o v) elem frozen
      | o => o) = w.heap := by
    apply Array.ext
    · simp
    · intro i h1 h2
      rw [Array.getElem_modify]
      split
      · rename_i he
        subst he
        obtain ⟨h3, h4⟩ := Array.getElem?_eq_some_iff.1 h
        rw [h4]
        show Obj.cells (cs.setIfInBounds o v) t (0, 0) = _
        congr 1
        apply Array.ext
        · simp
        · intro j h5 h6
          rw [Array.getElem_setIfInBounds]
          split
          · rename_i hj
            subst hj
            obtain ⟨h7, h8⟩ := Array.getElem?_eq_some_iff.1 hv
            exact h8.symm
          · rfl
      · rfl
  unfold World.setCell
  show { w with heap := w.heap.modify g (fun
      | .cells c elem frozen => .cells (c.setIfInBounds o v) elem frozen
      | o => o) } = w
  rw [key]
end Go.Proofs.YtiiihpokpfhclaaDoor
/- What the walk of the document's Tokens wants: one, an append of a token, how the reading of bytes goes on. -/
namespace Go.Proofs.YtiiihpokpfhclaaDoor
open Go Go.RowKit
set_option maxRecDepth 100000 in
theorem one_any (l : List UInt8) (c : UInt8) (hl : l.length ≤ 1000000) (w : World) : Calls Tryd.prog 51 #[.string (strB l), .int .u8 c.toNat] w fun e w' => e = .returned (.bool (l.contains c)) ∧ Below w.heap.size w w' := by
  have hz : (strB l).size = l.length := rfl
  generalize hQ : (fun e w' => e = Ending.returned (.bool (l.contains c)) ∧ Below w.heap.size w w') = Q
  replace hQ := hide hQ
  go_enter Tryd.func51, Tryd.ntmps51
  go_wp2_with fail
  go_loopw [5] (fun z wr => ∃ i : Nat, i ≤ l.length ∧ z = .int .i64 i ∧ wr = w ∧ l.contains c = (l.drop i).contains c) (fun z _ => l.length - (intOf z).toNat)
  case atStart => exact ⟨0, Nat.zero_le _, rfl, rfl, rfl⟩
  case round =>
    obtain ⟨i, hi, rfl, rfl, hc⟩ := hrel
    by_cases hlt : i < l.length
    · have hlt' : (i : Int) < (l.length : Int) := by omega
      obtain ⟨d, hd, hdr⟩ := drop_at hlt
      have hx := str_at hd
      rw [hdr, List.contains_cons] at hc
      replace hc := hide hc
      by_cases he : c = d
      · subst he
        go_wp2_with fail
        show Q (.returned (.bool true)) _
        rw [← hQ.out]
        exact ⟨by rw [hc.out]; simp, Below.refl _ _⟩
      · have he' : ((d.toNat : Int) == (c.toNat : Int)) = false := by
          rw [beq_eq_false_iff_ne]
          intro h
          exact he (UInt8.toNat_inj.1 (by omega))
        go_wp2_with fail
        go_roundw
        case rel => exact ⟨i + 1, by omega, by go_num, trivial, by rw [hc.out]; simp [he]⟩
        case measure => simp [intOf]; omega
    · obtain rfl : i = l.length := by omega
      rw [List.drop_length] at hc
      replace hc := hide hc
      go_wp2_with fail
      show Q (.returned (.bool false)) _
      rw [← hQ.out]
      exact ⟨by rw [hc.out]; rfl, Below.refl _ _⟩
/-- The walk's law: a token behind a row of the call's own. -/
theorem wp_tok {w : World} {ops : Array Oper} {rest : List Oper} {o : Oper} {a : Act} {Q : Exit → Act → World → Prop} (hgd : o.guard = none) (s x : Operand) (ho : o.op = .call { callee := .builtin .append, args := #[s, x], argTypes := #[65, 65] })
    (B : Nat) (v : Value) (ts : List Tok) (hs : a.eval s = v) (hown : ToksR w B v ts) (g : Nat) (hx : a.eval x = .slice (some ⟨g, 0, none⟩) 1 1) (t : Tok)
    (h0 : w.cell? ⟨g, 0, none⟩ = some (.int .i64 t.kind)) (h1 : w.cell? ⟨g, 1, none⟩ = some (.string (strB t.text))) (h2 : w.cell? ⟨g, 2, none⟩ = some (.int .i64 t.at_)) (hlen : ts.length ≤ 1000000) (hbase : B ≤ w.heap.size)
    (h : ∀ v' w', ToksR w' B v' (ts ++ [t]) → Below B w w' → wpList Tryd.prog ops Q rest (a.put o.dst v') w') : wpList Tryd.prog ops Q (o :: rest) a w := by
  obtain ⟨i0, hi, hz0, hz1, hz2⟩ := info_parts tok_info
  refine wpList_append_own w hgd s x 65 ho B 91 i0 (.agg #[.int .i64 0, .string .empty, .int .i64 0]) 3 32 Tryd.underlying65 hi hz0 hz1 hz2 rfl (by decide) v ts.length ((ts.map Tok.cells).flatten) hs hown ⟨g, 0, none⟩ 1 1 (Tok.cells t) hx rfl (three_cells h0 h1 h2) ?_ ?_ ?_ hbase ?_
  · simp [Tok.cells, Value.oneCell']
  · unfold maxLen; omega
  · omega
  · intro v' w' h3 h4 _
    refine h v' w' ?_ ((Below.refl B w).grown h4 (by omega) fun k hk => (World.ownsRow.lt hown k hk).1)
    unfold ToksR
    rw [List.length_append, List.map_append, List.flatten_append]
    simpa using h3
theorem runT_fresh {st : St} {i : Nat} {ts ts' : List Tok} {c : UInt8} {r : List UInt8} (h : st.goes c = false) (hf : st.fin ts c = .ok ts') : runT st i ts (c :: r) = runT .blank i ts' (c :: r) := by
  rw [runT_ok h hf, runT_ok (st := .blank) rfl rfl]
theorem runT_start (i : Nat) (ts : List Tok) (c : UInt8) (r : List UInt8) : runT .blank i ts (c :: r) = runT (St.begin i c) (i + 1) ts r := runT_ok rfl rfl
theorem valL_snoc (w : List UInt8) (c : UInt8) : valL (w ++ [c]) = 10 * valL w + (c.toNat - 48) := by
  unfold valL
  rw [List.foldl_append]; rfl
theorem begin_blank {i : Nat} {c : UInt8} (h : blankB c.toNat = true) : St.begin i c = .blank := by unfold St.begin; rw [if_pos h]
theorem begin_com {i : Nat} : St.begin i 35 = .com := rfl
theorem begin_name {i : Nat} {c : UInt8} (h1 : blankB c.toNat = false) (h2 : c ≠ 35) (h3 : letterB c.toNat = true) : St.begin i c = .word 0 i [c] := by unfold St.begin; rw [if_neg (by rw [h1]; simp), if_neg h2, if_pos h3]
theorem begin_num {i : Nat} {c : UInt8} (h1 : blankB c.toNat = false) (h2 : c ≠ 35) (h3 : letterB c.toNat = false) (h4 : digitB c.toNat = true) : St.begin i c = .word 1 i [c] := by unfold St.begin; rw [if_neg (by rw [h1]; simp), if_neg h2, if_neg (by rw [h3]; simp), if_pos h4]
theorem begin_op {i : Nat} {c : UInt8} (h1 : blankB c.toNat = false) (h2 : c ≠ 35) (h3 : letterB c.toNat = false) (h4 : digitB c.toNat = false) : St.begin i c = .word 2 i [c] := by unfold St.begin; rw [if_neg (by rw [h1]; simp), if_neg h2, if_neg (by rw [h3]; simp), if_neg (by rw [h4]; simp)]
/-- The text with its last byte: what stands at i. -/
theorem tx_at {l : List UInt8} {i : Nat} (h : i ≤ l.length) : ∃ c, (l ++ [10])[i]? = some c ∧ (l ++ [10]).drop i = c :: (l ++ [10]).drop (i + 1) ∧ (i < l.length → l[i]? = some c) ∧ (i = l.length → c = 10) := by
  obtain ⟨c, h1, h2⟩ := drop_at (T := l ++ [10]) (i := i) (by simp; omega)
  refine ⟨c, h1, h2, fun hi => ?_, fun hi => ?_⟩
  · rw [List.getElem?_append_left hi] at h1; exact h1
  · subst hi
    rw [List.getElem?_append_right (Nat.le_refl _)] at h1
    simpa using h1.symm
/-- A word from i on, read up to j. -/
def wdOf (l : List UInt8) (i j : Nat) : List UInt8 := (l.drop i).take (j - i)
theorem wdOf_len {l : List UInt8} {i j : Nat} (hij : i ≤ j) (hj : j ≤ l.length) : (wdOf l i j).length = j - i := by
  unfold wdOf; rw [List.length_take, List.length_drop]; omega
theorem wdOf_one {l : List UInt8} {i : Nat} {c : UInt8} (h : (l ++ [10])[i]? = some c) (hi : i < l.length) : wdOf l i (i + 1) = [c] := by
  unfold wdOf
  rw [List.getElem?_append_left hi] at h
  rw [take_next (Nat.le_refl i) h]
  simp
theorem wdOf_next {l : List UInt8} {i j : Nat} {c : UInt8} (hij : i ≤ j) (h : (l ++ [10])[j]? = some c) (hj : j < l.length) : wdOf l i (j + 1) = wdOf l i j ++ [c] := by
  unfold wdOf
  rw [List.getElem?_append_left hj] at h
  exact take_next hij h
/-- A word of a kind that began at i with c is read up to j. -/
def WordAt (l : List UInt8) (k i : Nat) (c : UInt8) (ts : List Tok) (R : Res) (j : Nat) : Prop :=
  (j = i ∧ runT (.word k i [c]) (i + 1) ts ((l ++ [10]).drop (i + 1)) = R) ∨ (i < j ∧ runT (.word k i (wdOf l i j)) j ts ((l ++ [10]).drop j) = R)
section
variable {l : List UInt8} {k i : Nat} {c : UInt8} {ts : List Tok} {R : Res} {j : Nat} {d : UInt8}
theorem WordAt.next (h : WordAt l k i c ts R j) (hc : (l ++ [10])[i]? = some c) (hij : i ≤ j) (hj : j < l.length) (hd : (l ++ [10])[j]? = some d) (hdd : (l ++ [10]).drop j = d :: (l ++ [10]).drop (j + 1)) (hg : i < j → (St.word k i (wdOf l i j)).goes d = true) : WordAt l k i c ts R (j + 1) := by
  refine .inr ⟨by omega, ?_⟩
  rcases h with ⟨rfl, h⟩ | ⟨hlt, h⟩
  · rw [wdOf_one hc hj]; exact h
  · rw [hdd, runT_goes (hg hlt)] at h
    rw [wdOf_next hij hd hj]
    exact h
theorem WordAt.stop (h : WordAt l k i c ts R j) (hlt : i < j) (hdd : (l ++ [10]).drop j = d :: (l ++ [10]).drop (j + 1)) (hg : (St.word k i (wdOf l i j)).goes d = false) (hf : fault k (wdOf l i j) d = 0) : runT .blank j (ts ++ [⟨k, wdOf l i j, i⟩]) ((l ++ [10]).drop j) = R := by
  rcases h with ⟨rfl, h⟩ | ⟨_, h⟩
  · omega
  · rw [hdd, runT_fresh hg (fin_ok hf), ← hdd] at h
    exact h
theorem WordAt.fell {n : Nat} (h : WordAt l k i c ts R j) (hlt : i < j) (hdd : (l ++ [10]).drop j = d :: (l ++ [10]).drop (j + 1)) (hg : (St.word k i (wdOf l i j)).goes d = false) (hf : fault k (wdOf l i j) d = n) (hn : n ≠ 0) : R = .error (i, n) := by
  rcases h with ⟨rfl, h⟩ | ⟨_, h⟩
  · omega
  · rw [hdd, runT_err hg (fin_err hf hn)] at h
    exact h.symm
end
/-- What the document's Tokens keeps of a number's digits: their sum, or that it is too great. -/
def NumAt (wd : List UInt8) (a : Int) (g : Bool) : Prop := (∀ c ∈ wd, digitB c.toNat = true) ∧ 0 ≤ a ∧ a ≤ 9223372036854775809 ∧ (g = false ∧ a = valL wd ∨ g = true ∧ 922337203685477580 < a ∧ 9223372036854775807 < valL wd)
section
variable {wd : List UInt8} {a : Int} {g : Bool}
theorem NumAt.start : NumAt [] 0 false := ⟨fun _ h => by simp at h, by omega, by omega, .inl ⟨rfl, rfl⟩⟩
theorem NumAt.lo (h : NumAt wd a g) : 0 ≤ a := h.2.1
theorem NumAt.hi (h : NumAt wd a g) : a ≤ 9223372036854775809 := h.2.2.1
theorem NumAt.digits (h : NumAt wd a g) {d : UInt8} (hd : digitB d.toNat = true) : ∀ c ∈ wd ++ [d], digitB c.toNat = true := by
  intro c hc
  rw [List.mem_append, List.mem_singleton] at hc
  rcases hc with hc | rfl
  · exact h.1 c hc
  · exact hd
theorem NumAt.big (h : NumAt wd a g) (d : UInt8) (hd : digitB d.toNat = true) (hb : (922337203685477580 : Int) < a) : NumAt (wd ++ [d]) a true := by
  refine ⟨h.digits hd, h.lo, h.hi, .inr ⟨rfl, hb, ?_⟩⟩
  rw [valL_snoc]
  rcases h.2.2.2 with ⟨-, h1⟩ | ⟨-, -, h1⟩
  · omega
  · omega
theorem NumAt.small (h : NumAt wd a g) (d : UInt8) (hd : digitB d.toNat = true) (hb : a ≤ 922337203685477580) : g = false ∧ NumAt (wd ++ [d]) (10 * a + ((d.toNat : Int) - 48)) g := by
  have hdd := hd
  unfold digitB at hdd
  replace hdd := of_decide_eq_true hdd
  rcases h.2.2.2 with ⟨h0, h1⟩ | ⟨-, h1, -⟩
  · have := h.lo
    refine ⟨h0, h.digits hd, by omega, by omega, .inl ⟨h0, ?_⟩⟩
    rw [valL_snoc]
    omega
  · omega
theorem NumAt.great (h : NumAt wd a g) (hg : g = true ∨ 9223372036854775807 < a) : 9223372036854775807 < valL wd := by
  rcases h.2.2.2 with ⟨h0, h1⟩ | ⟨-, -, h1⟩
  · rcases hg with hg | hg
    · rw [h0] at hg; cases hg
    · omega
  · exact h1
theorem NumAt.fits (h : NumAt wd a g) (hg : g = false) (ha : a ≤ 9223372036854775807) : ¬ 9223372036854775807 < valL wd := by
  rcases h.2.2.2 with ⟨h0, h1⟩ | ⟨h0, -, -⟩
  · omega
  · rw [hg] at h0; cases h0
end
theorem wdOf_head {l : List UInt8} {i j : Nat} {c : UInt8} (h : (l ++ [10])[i]? = some c) (hi : i < l.length) (hij : i < j) : (wdOf l i j).headD 0 = c := by
  unfold wdOf
  rw [List.getElem?_append_left hi] at h
  rw [List.drop_eq_getElem_cons hi]
  obtain ⟨k, hk⟩ : ∃ k, j - i = k + 1 := ⟨j - i - 1, by omega⟩
  rw [hk, List.take_succ_cons]
  rw [List.getElem?_eq_getElem hi] at h
  exact Option.some.inj h
theorem fault_num (wd : List UInt8) (d : UInt8) : fault 1 wd d = faultN wd d := rfl
theorem fault_rest {wd : List UInt8} {c d : UInt8} {n : Nat} (hh : wd.headD 0 = c) (hl : wd.length = n) (hv : ¬ 9223372036854775807 < valL wd) : fault 1 wd d = if letterB d.toNat = true ∨ (c.toNat = 48 ∧ 1 < n) then 50 else 0 := by
  rw [fault_num, faultN, if_neg hv, hh, hl]
  have e : ((letterB d.toNat || (c == 48 && decide (1 < n))) = true) = (letterB d.toNat = true ∨ (c.toNat = 48 ∧ 1 < n)) := by
    rw [Bool.or_eq_true, Bool.and_eq_true, beq_iff_eq, decide_eq_true_iff]
    have : (c = 48) = (c.toNat = 48) := propext ⟨fun h => by rw [h]; rfl, fun h => UInt8.toNat_inj.1 (by rw [h]; rfl)⟩
    rw [this]
  simp only [e]
theorem ToksR.below {w w' : World} {B : Nat} {v : Value} {ts : List Tok} (h : ToksR w B v ts) (hb : Below w.heap.size w w') : ToksR w' B v ts := (Upd.of_below (fun _ => False) hb).own h fun _ _ => id
/-- The signs of one byte. -/
def signs : List UInt8 := [61, 60, 62, 43, 45, 42, 47, 37, 38, 33, 40, 41, 123, 125, 91, 93, 44, 59]
theorem isOp_one (c : UInt8) : isOp [c] = signs.contains c := by
  unfold isOp opsL signs
  rw [Bool.eq_iff_iff]
  simp
theorem isOp_two {c d : UInt8} : isOp [c, d] = true ↔ (c = 61 ∧ d = 61) ∨ (c = 33 ∧ d = 61) ∨ (c = 60 ∧ d = 61) ∨ (c = 62 ∧ d = 61) ∨ (c = 38 ∧ d = 38) ∨ (c = 124 ∧ d = 124) := by
  unfold isOp opsL
  simp
theorem isOp_three (c d e : UInt8) : isOp [c, d, e] = false := by
  unfold isOp opsL
  rw [Bool.eq_false_iff]
  simp
theorem isOp_end (c : UInt8) : isOp [c, 10] = false := by
  unfold isOp opsL
  rw [Bool.eq_false_iff]
  simp
section
variable {l : List UInt8} {i : Nat} {c d e : UInt8} {ts : List Tok} {R : Res}
theorem op_two (h : runT (.word 2 i [c]) (i + 1) ts ((l ++ [10]).drop (i + 1)) = R) (hd : (l ++ [10]).drop (i + 1) = d :: (l ++ [10]).drop (i + 1 + 1)) (he : (l ++ [10]).drop (i + 1 + 1) = e :: (l ++ [10]).drop (i + 1 + 1 + 1)) (ho : isOp [c, d] = true) : runT .blank (i + 1 + 1) (ts ++ [⟨2, [c, d], i⟩]) ((l ++ [10]).drop (i + 1 + 1)) = R := by
  rw [hd, runT_goes (st := .word 2 i [c]) ho] at h
  have hf : fault 2 [c, d] e = 0 := by rw [fault_op, if_pos ho]
  have hg : (St.word 2 i [c, d]).goes e = false := isOp_three c d e
  rw [he]
  rw [he] at h
  rw [← runT_fresh hg (fin_ok hf)]
  exact h
theorem op_one (h : runT (.word 2 i [c]) (i + 1) ts ((l ++ [10]).drop (i + 1)) = R) (hd : (l ++ [10]).drop (i + 1) = d :: (l ++ [10]).drop (i + 1 + 1)) (ho : isOp [c, d] = false) (h1 : isOp [c] = true) : runT .blank (i + 1) (ts ++ [⟨2, [c], i⟩]) ((l ++ [10]).drop (i + 1)) = R := by
  have hf : fault 2 [c] d = 0 := by rw [fault_op, if_pos h1]
  have hg : (St.word 2 i [c]).goes d = false := ho
  rw [hd] at h ⊢
  rw [← runT_fresh hg (fin_ok hf)]
  exact h
theorem op_fell (h : runT (.word 2 i [c]) (i + 1) ts ((l ++ [10]).drop (i + 1)) = R) (hd : (l ++ [10]).drop (i + 1) = d :: (l ++ [10]).drop (i + 1 + 1)) (ho : isOp [c, d] = false) (h1 : isOp [c] = false) : R = .error (i, 50) := by
  have hf : fault 2 [c] d = 50 := by rw [fault_op, if_neg (by rw [h1]; simp)]
  have hg : (St.word 2 i [c]).goes d = false := ho
  rw [hd, runT_err hg (fin_err hf (by decide))] at h
  exact h.symm
end
theorem wdOf_two {l : List UInt8} {i : Nat} {c d : UInt8} (h : (l ++ [10])[i]? = some c) (hd : (l ++ [10])[i + 1]? = some d) (hi : i + 1 < l.length) : wdOf l i (i + 1 + 1) = [c, d] := by
  rw [wdOf_next (by omega) hd hi, wdOf_one h (by omega)]
  rfl
theorem str_wd {l : List UInt8} {i j : Nat} (hij : i ≤ j) (hj : j ≤ l.length) (w : World) : (Instr.slice 9 (.string (strB l)) (some (.int .i64 i)) (some (.int .i64 j)) none).run Tryd.prog w = .ok (.string (strB (wdOf l i j))) w := str_cut hij hj w
theorem cut_next {l : List UInt8} {f i : Nat} {c : UInt8} (hf : f ≤ i) (h : (l ++ [10])[i]? = some c) : ((l ++ [10]).drop f).take (i + 1 - f) = ((l ++ [10]).drop f).take (i - f) ++ [c] := take_next hf h
end Go.Proofs.YtiiihpokpfhclaaDoor
/- The document's Tokens: its loop's body, what a round asks and gives. -/
namespace Go.Proofs.YtiiihpokpfhclaaDoor
open Go Go.RowKit
def firstLoop : Code → Option Code
  | .loop c => some c
  | .seq a b => match firstLoop a with
    | some c => some c
    | none => firstLoop b
  | .block _ c => firstLoop c
  | .scope c => firstLoop c
  | .cond _ a b => match firstLoop a with
    | some c => some c
    | none => firstLoop b
  | _ => none
noncomputable def refBody : Code := (Tryd.f22.body.bind firstLoop).getD .skip
/-- What holds at a round's begin. -/
structure RelR (l : List UInt8) (W : World) (R : Res) (i : Nat) (ts : List Tok) (v : Value) (w : World) : Prop where
  hi : i ≤ l.length
  hts : ts.length ≤ i
  hv : ToksR w W.heap.size v ts
  hbr : Below W.heap.size W w
  hrun : runT .blank i ts ((l ++ [10]).drop i) = R
/-- A frame of the loop. -/
structure FrR (l : List UInt8) (T : Array Value) (v : Value) (i : Nat) : Prop where
  size : T.size = 229
  s0 : T.getD 0 undef = .string (strB l)
  s5 : T.getD 5 undef = v
  s6 : T.getD 6 undef = .int .i64 i
/-- What a round goes on with. -/
def GoesR (l : List UInt8) (W : World) (R : Res) (i : Nat) (K1 : Act → World → Prop) : Prop := ∀ T w v j ts, FrR l T v j → RelR l W R j ts v w → i < j → K1 ⟨T, []⟩ w
/-- What a round returns. -/
def RetsR (W : World) (R : Res) (Q0 : Exit → Act → World → Prop) : Prop := ∀ T w (a n : Nat), T.size = 229 → T.getD 2 undef = .slice none 0 0 → T.getD 3 undef = .int .i64 a → T.getD 4 undef = .int .i64 n → Below W.heap.size W w → R = .error (a, n) → n ≠ 0 → Q0 .ret ⟨T, []⟩ w
end Go.Proofs.YtiiihpokpfhclaaDoor
/- A round of the document's Tokens: blank. -/
namespace Go.Proofs.YtiiihpokpfhclaaDoor
open Go Go.RowKit
set_option maxRecDepth 1000000 in
set_option maxHeartbeats 4000000 in
theorem ref_blank (l : List UInt8) (hl : l.length ≤ 4096) (W wo : World) (R : Res) (i : Nat) (ts : List Tok) (c : UInt8) (v : Value) (K1 : Act → World → Prop) (Q0 : Exit → Act → World → Prop) (hK1 : GoesR l W R i K1) (hQ0 : RetsR W R Q0)
    (hlt : i < l.length) (hts : ts.length ≤ i) (hv : ToksR wo W.heap.size v ts) (hbr : Below W.heap.size W wo) (hrun : runT (St.begin i c) (i + 1) ts ((l ++ [10]).drop (i + 1)) = R) (hc : (l ++ [10])[i]? = some c) (hc1 : l[i]? = some c) (h1 : blankB c.toNat = true)
    (u1 u2 u3 u4 u7 u8 u9 u10 u11 u12 u13 u14 u15 u16 u17 u18 u19 u20 u21 u22 u23 u24 u25 u26 u27 u28 u29 u30 u31 u32 u33 u34 u35 u36 u37 u38 u39 u40 u41 u42 u43 u44 u45 u46 u47 u48 u49 u50 u51 u52 u53 u54 u55 u56 u57 u58 u59 u60 u61 u62 u63 u64 u65 u66 u67 u68 u69 u70 u71 u72 u73 u74 u75 u76 u77 u78 u79 u80 u81 u82 u83 u84 u85 u86 u87 u88 u89 u90 u91 u92 u93 u94 u95 u96 u97 u98 u99 u100 u101 u102 u103 u104 u105 u106 u107 u108 u109 u110 u111 u112 u113 u114 u115 u116 u117 u118 u119 u120 u121 u122 u123 u124 u125 u126 u127 u128 u129 u130 u131 u132 u133 u134 u135 u136 u137 u138 u139 u140 u141 u142 u143 u144 u145 u146 u147 u148 u149 u150 u151 u152 u153 u154 u155 u156 u157 u158 u159 u160 u161 u162 u163 u164 u165 u166 u167 u168 u169 u170 u171 u172 u173 u174 u175 u176 u177 u178 u179 u180 u181 u182 u183 u184 u185 u186 u187 u188 u189 u190 u191 u192 u193 u194 u195 u196 u197 u198 u199 u200 u201 u202 u203 u204 u205 u206 u207 u208 u209 u210 u211 u212 u213 u214 u215 u216 u217 u218 u219 u220 u221 u222 u223 u224 u225 u226 u227 u228 : Value) :
    Code.wp Tryd.prog refBody (Exit.then K1 Q0) ⟨#[.string (strB l), u1, u2, u3, u4, v, .int .i64 i, u7, u8, u9, u10, u11, u12, u13, u14, u15, u16, u17, u18, u19, u20, u21, u22, u23, u24, u25, u26, u27, u28, u29, u30, u31, u32, u33, u34, u35, u36, u37, u38, u39, u40, u41, u42, u43, u44, u45, u46, u47, u48, u49, u50, u51, u52, u53, u54, u55, u56, u57, u58, u59, u60, u61, u62, u63, u64, u65, u66, u67, u68, u69, u70, u71, u72, u73, u74, u75, u76, u77, u78, u79, u80, u81, u82, u83, u84, u85, u86, u87, u88, u89, u90, u91, u92, u93, u94, u95, u96, u97, u98, u99, u100, u101, u102, u103, u104, u105, u106, u107, u108, u109, u110, u111, u112, u113, u114, u115, u116, u117, u118, u119, u120, u121, u122, u123, u124, u125, u126, u127, u128, u129, u130, u131, u132, u133, u134, u135, u136, u137, u138, u139, u140, u141, u142, u143, u144, u145, u146, u147, u148, u149, u150, u151, u152, u153, u154, u155, u156, u157, u158, u159, u160, u161, u162, u163, u164, u165, u166, u167, u168, u169, u170, u171, u172, u173, u174, u175, u176, u177, u178, u179, u180, u181, u182, u183, u184, u185, u186, u187, u188, u189, u190, u191, u192, u193, u194, u195, u196, u197, u198, u199, u200, u201, u202, u203, u204, u205, u206, u207, u208, u209, u210, u211, u212, u213, u214, u215, u216, u217, u218, u219, u220, u221, u222, u223, u224, u225, u226, u227, u228], []⟩ wo := by
  conv => arg 2; whnf
  have hz : (strB l).size = l.length := rfl
  have hx := str_at hc1
  have hlt' : (i : Int) < (l.length : Int) := by omega
  have hi : i ≤ l.length := by omega
  replace hK1 := hide hK1
  replace hQ0 := hide hQ0
  replace hv := hide hv
  replace hbr := hide hbr
  replace hc1 := hide hc1
  have _ := hc
  rw [begin_blank h1] at hrun
  replace hrun := hide hrun
  unfold blankB at h1
  replace h1 := of_decide_eq_true h1
  rcases h1 with h1 | h1 | h1 | h1
  all_goals (
    rw [h1] at hx
    clear h1
    go_wp2_with fail
    exact hK1.out _ _ _ (i + 1) ts ⟨rfl, rfl, rfl, by first | rfl | go_num⟩ ⟨by omega, by omega, hv.out, hbr.out, hrun.out⟩ (by omega))
end Go.Proofs.YtiiihpokpfhclaaDoor
/- A round of the document's Tokens: com. -/
namespace Go.Proofs.YtiiihpokpfhclaaDoor
open Go Go.RowKit
set_option maxRecDepth 1000000 in
set_option maxHeartbeats 4000000 in
theorem ref_com (l : List UInt8) (hl : l.length ≤ 4096) (W wo : World) (R : Res) (i : Nat) (ts : List Tok) (c : UInt8) (v : Value) (K1 : Act → World → Prop) (Q0 : Exit → Act → World → Prop) (hK1 : GoesR l W R i K1) (hQ0 : RetsR W R Q0)
    (hlt : i < l.length) (hts : ts.length ≤ i) (hv : ToksR wo W.heap.size v ts) (hbr : Below W.heap.size W wo) (hrun : runT (St.begin i c) (i + 1) ts ((l ++ [10]).drop (i + 1)) = R) (hc : (l ++ [10])[i]? = some c) (hc1 : l[i]? = some c) (h1 : blankB c.toNat = false) (h2 : c = 35)
    (u1 u2 u3 u4 u7 u8 u9 u10 u11 u12 u13 u14 u15 u16 u17 u18 u19 u20 u21 u22 u23 u24 u25 u26 u27 u28 u29 u30 u31 u32 u33 u34 u35 u36 u37 u38 u39 u40 u41 u42 u43 u44 u45 u46 u47 u48 u49 u50 u51 u52 u53 u54 u55 u56 u57 u58 u59 u60 u61 u62 u63 u64 u65 u66 u67 u68 u69 u70 u71 u72 u73 u74 u75 u76 u77 u78 u79 u80 u81 u82 u83 u84 u85 u86 u87 u88 u89 u90 u91 u92 u93 u94 u95 u96 u97 u98 u99 u100 u101 u102 u103 u104 u105 u106 u107 u108 u109 u110 u111 u112 u113 u114 u115 u116 u117 u118 u119 u120 u121 u122 u123 u124 u125 u126 u127 u128 u129 u130 u131 u132 u133 u134 u135 u136 u137 u138 u139 u140 u141 u142 u143 u144 u145 u146 u147 u148 u149 u150 u151 u152 u153 u154 u155 u156 u157 u158 u159 u160 u161 u162 u163 u164 u165 u166 u167 u168 u169 u170 u171 u172 u173 u174 u175 u176 u177 u178 u179 u180 u181 u182 u183 u184 u185 u186 u187 u188 u189 u190 u191 u192 u193 u194 u195 u196 u197 u198 u199 u200 u201 u202 u203 u204 u205 u206 u207 u208 u209 u210 u211 u212 u213 u214 u215 u216 u217 u218 u219 u220 u221 u222 u223 u224 u225 u226 u227 u228 : Value) :
    Code.wp Tryd.prog refBody (Exit.then K1 Q0) ⟨#[.string (strB l), u1, u2, u3, u4, v, .int .i64 i, u7, u8, u9, u10, u11, u12, u13, u14, u15, u16, u17, u18, u19, u20, u21, u22, u23, u24, u25, u26, u27, u28, u29, u30, u31, u32, u33, u34, u35, u36, u37, u38, u39, u40, u41, u42, u43, u44, u45, u46, u47, u48, u49, u50, u51, u52, u53, u54, u55, u56, u57, u58, u59, u60, u61, u62, u63, u64, u65, u66, u67, u68, u69, u70, u71, u72, u73, u74, u75, u76, u77, u78, u79, u80, u81, u82, u83, u84, u85, u86, u87, u88, u89, u90, u91, u92, u93, u94, u95, u96, u97, u98, u99, u100, u101, u102, u103, u104, u105, u106, u107, u108, u109, u110, u111, u112, u113, u114, u115, u116, u117, u118, u119, u120, u121, u122, u123, u124, u125, u126, u127, u128, u129, u130, u131, u132, u133, u134, u135, u136, u137, u138, u139, u140, u141, u142, u143, u144, u145, u146, u147, u148, u149, u150, u151, u152, u153, u154, u155, u156, u157, u158, u159, u160, u161, u162, u163, u164, u165, u166, u167, u168, u169, u170, u171, u172, u173, u174, u175, u176, u177, u178, u179, u180, u181, u182, u183, u184, u185, u186, u187, u188, u189, u190, u191, u192, u193, u194, u195, u196, u197, u198, u199, u200, u201, u202, u203, u204, u205, u206, u207, u208, u209, u210, u211, u212, u213, u214, u215, u216, u217, u218, u219, u220, u221, u222, u223, u224, u225, u226, u227, u228], []⟩ wo := by
  conv => arg 2; whnf
  have hz : (strB l).size = l.length := rfl
  have hx := str_at hc1
  have hlt' : (i : Int) < (l.length : Int) := by omega
  have hi : i ≤ l.length := by omega
  replace hK1 := hide hK1
  replace hQ0 := hide hQ0
  replace hv := hide hv
  replace hbr := hide hbr
  replace hc1 := hide hc1
  have h1' := h1
  unfold blankB at h1'
  replace h1' := of_decide_eq_false h1'
  have b1 : ((c.toNat : Int) == 32) = false := by rw [beq_eq_false_iff_ne]; omega
  have b2 : ((c.toNat : Int) == 9) = false := by rw [beq_eq_false_iff_ne]; omega
  have b3 : ((c.toNat : Int) == 13) = false := by rw [beq_eq_false_iff_ne]; omega
  have b4 : ((c.toNat : Int) == 10) = false := by rw [beq_eq_false_iff_ne]; omega
  clear h1'
  subst h2
  rw [begin_com] at hrun
  replace hrun := hide hrun
  clear b1 b2 b3 b4
  go_wp2_with fail
  go_loopw [6] (fun z wr => ∃ j : Nat, i ≤ j ∧ j ≤ l.length ∧ z = .int .i64 j ∧ wr = wo ∧ (j = i ∨ runT .com j ts ((l ++ [10]).drop j) = R)) (fun z _ => l.length - (intOf z).toNat)
  case atStart => exact ⟨i, Nat.le_refl _, hi, rfl, rfl, .inl rfl⟩
  case round =>
    obtain ⟨j, hij, hj, rfl, rfl, hcom⟩ := hrel
    replace hcom := hide hcom
    obtain ⟨d, hd2, hdd, hd1, hd0⟩ := tx_at hj
    by_cases hgo : j < l.length ∧ d ≠ 10
    · have hy := str_at (hd1 hgo.1)
      have hlt2 : (j : Int) < (l.length : Int) := by omega
      have hne : ((d.toNat : Int) != 10) = true := by
        rw [bne_iff_ne]
        intro h
        exact hgo.2 (UInt8.toNat_inj.1 (by show d.toNat = 10; omega))
      have hnext : runT .com (j + 1) ts ((l ++ [10]).drop (j + 1)) = R := by
        rcases hcom.out with rfl | h
        · exact hrun.out
        · rw [hdd, runT_goes (by simpa [St.goes] using hgo.2)] at h
          exact h
      replace hnext := hide hnext
      go_wp2_with fail
      go_roundw
      case rel => exact ⟨j + 1, by omega, by omega, by go_num, trivial, .inr hnext.out⟩
      case measure => simp [intOf]; omega
    · have hend : runT .blank j ts ((l ++ [10]).drop j) = R := by
        rcases hcom.out with rfl | h
        · have := hd1 hlt
          exfalso
          refine hgo ⟨hlt, ?_⟩
          rw [hc1.out] at this
          injection this with this
          rw [← this]
          decide
        · rw [hdd, runT_fresh (st := .com) (ts' := ts) ?_ rfl, ← hdd] at h
          · exact h
          · have : d = 10 := by
              by_cases e : j < l.length
              · exact Classical.byContradiction fun h => hgo ⟨e, h⟩
              · exact hd0 (by omega)
            rw [this]; rfl
      replace hend := hide hend
      have hne2 : i < j := by
        rcases Nat.lt_or_ge i j with h | h
        · exact h
        · exfalso
          obtain rfl : i = j := by omega
          have := hd1 hlt
          refine hgo ⟨hlt, ?_⟩
          rw [hc1.out] at this
          injection this with this
          rw [← this]
          decide
      by_cases hlt3 : j < l.length
      · have hd10 : d = 10 := Classical.byContradiction fun h => hgo ⟨hlt3, h⟩
        subst hd10
        have hy := str_at (hd1 hlt3)
        have hlt2 : (j : Int) < (l.length : Int) := by omega
        go_wp2_with fail
        exact hK1.out _ _ _ (j) ts ⟨rfl, rfl, rfl, by first | rfl | go_num⟩ ⟨hj, by omega, hv.out, hbr.out, hend.out⟩ (by omega)
      · have hlt2 : ¬ (j : Int) < (l.length : Int) := by omega
        go_wp2_with fail
        exact hK1.out _ _ _ (j) ts ⟨rfl, rfl, rfl, by first | rfl | go_num⟩ ⟨hj, by omega, hv.out, hbr.out, hend.out⟩ (by omega)
end Go.Proofs.YtiiihpokpfhclaaDoor
/- A round of the document's Tokens: name. -/
namespace Go.Proofs.YtiiihpokpfhclaaDoor
open Go Go.RowKit
set_option maxRecDepth 1000000 in
set_option maxHeartbeats 4000000 in
theorem ref_name (l : List UInt8) (hl : l.length ≤ 4096) (W wo : World) (R : Res) (i : Nat) (ts : List Tok) (c : UInt8) (v : Value) (K1 : Act → World → Prop) (Q0 : Exit → Act → World → Prop) (hK1 : GoesR l W R i K1) (hQ0 : RetsR W R Q0)
    (hlt : i < l.length) (hts : ts.length ≤ i) (hv : ToksR wo W.heap.size v ts) (hbr : Below W.heap.size W wo) (hrun : runT (St.begin i c) (i + 1) ts ((l ++ [10]).drop (i + 1)) = R) (hc : (l ++ [10])[i]? = some c) (hc1 : l[i]? = some c) (h1 : blankB c.toNat = false) (h2 : ¬ c = 35) (h3 : letterB c.toNat = true)
    (u1 u2 u3 u4 u7 u8 u9 u10 u11 u12 u13 u14 u15 u16 u17 u18 u19 u20 u21 u22 u23 u24 u25 u26 u27 u28 u29 u30 u31 u32 u33 u34 u35 u36 u37 u38 u39 u40 u41 u42 u43 u44 u45 u46 u47 u48 u49 u50 u51 u52 u53 u54 u55 u56 u57 u58 u59 u60 u61 u62 u63 u64 u65 u66 u67 u68 u69 u70 u71 u72 u73 u74 u75 u76 u77 u78 u79 u80 u81 u82 u83 u84 u85 u86 u87 u88 u89 u90 u91 u92 u93 u94 u95 u96 u97 u98 u99 u100 u101 u102 u103 u104 u105 u106 u107 u108 u109 u110 u111 u112 u113 u114 u115 u116 u117 u118 u119 u120 u121 u122 u123 u124 u125 u126 u127 u128 u129 u130 u131 u132 u133 u134 u135 u136 u137 u138 u139 u140 u141 u142 u143 u144 u145 u146 u147 u148 u149 u150 u151 u152 u153 u154 u155 u156 u157 u158 u159 u160 u161 u162 u163 u164 u165 u166 u167 u168 u169 u170 u171 u172 u173 u174 u175 u176 u177 u178 u179 u180 u181 u182 u183 u184 u185 u186 u187 u188 u189 u190 u191 u192 u193 u194 u195 u196 u197 u198 u199 u200 u201 u202 u203 u204 u205 u206 u207 u208 u209 u210 u211 u212 u213 u214 u215 u216 u217 u218 u219 u220 u221 u222 u223 u224 u225 u226 u227 u228 : Value) :
    Code.wp Tryd.prog refBody (Exit.then K1 Q0) ⟨#[.string (strB l), u1, u2, u3, u4, v, .int .i64 i, u7, u8, u9, u10, u11, u12, u13, u14, u15, u16, u17, u18, u19, u20, u21, u22, u23, u24, u25, u26, u27, u28, u29, u30, u31, u32, u33, u34, u35, u36, u37, u38, u39, u40, u41, u42, u43, u44, u45, u46, u47, u48, u49, u50, u51, u52, u53, u54, u55, u56, u57, u58, u59, u60, u61, u62, u63, u64, u65, u66, u67, u68, u69, u70, u71, u72, u73, u74, u75, u76, u77, u78, u79, u80, u81, u82, u83, u84, u85, u86, u87, u88, u89, u90, u91, u92, u93, u94, u95, u96, u97, u98, u99, u100, u101, u102, u103, u104, u105, u106, u107, u108, u109, u110, u111, u112, u113, u114, u115, u116, u117, u118, u119, u120, u121, u122, u123, u124, u125, u126, u127, u128, u129, u130, u131, u132, u133, u134, u135, u136, u137, u138, u139, u140, u141, u142, u143, u144, u145, u146, u147, u148, u149, u150, u151, u152, u153, u154, u155, u156, u157, u158, u159, u160, u161, u162, u163, u164, u165, u166, u167, u168, u169, u170, u171, u172, u173, u174, u175, u176, u177, u178, u179, u180, u181, u182, u183, u184, u185, u186, u187, u188, u189, u190, u191, u192, u193, u194, u195, u196, u197, u198, u199, u200, u201, u202, u203, u204, u205, u206, u207, u208, u209, u210, u211, u212, u213, u214, u215, u216, u217, u218, u219, u220, u221, u222, u223, u224, u225, u226, u227, u228], []⟩ wo := by
  conv => arg 2; whnf
  have hz : (strB l).size = l.length := rfl
  have hx := str_at hc1
  have hlt' : (i : Int) < (l.length : Int) := by omega
  have hi : i ≤ l.length := by omega
  replace hK1 := hide hK1
  replace hQ0 := hide hQ0
  replace hv := hide hv
  replace hbr := hide hbr
  replace hc1 := hide hc1
  have h1' := h1
  unfold blankB at h1'
  replace h1' := of_decide_eq_false h1'
  have b1 : ((c.toNat : Int) == 32) = false := by rw [beq_eq_false_iff_ne]; omega
  have b2 : ((c.toNat : Int) == 9) = false := by rw [beq_eq_false_iff_ne]; omega
  have b3 : ((c.toNat : Int) == 13) = false := by rw [beq_eq_false_iff_ne]; omega
  have b4 : ((c.toNat : Int) == 10) = false := by rw [beq_eq_false_iff_ne]; omega
  clear h1'
  have hc35 : ((c.toNat : Int) == 35) = false := by
    rw [beq_eq_false_iff_ne]
    intro h
    exact h2 (UInt8.toNat_inj.1 (by show c.toNat = 35; omega))
  rw [begin_name h1 h2 h3] at hrun
  have hW0 : WordAt l 0 i c ts R i := .inl ⟨rfl, hrun⟩
  replace hrun := hide hrun
  have h3h := hide h3
  clear h3 h1
  have hL := hide (letter_any c.toNat wo)
  rw [h3h.out] at hL
  go_wp2_with fail
  refine hL.out.mono ?_
  rintro e w' ⟨rfl, rfl⟩
  go_wp2_with fail
  go_loopw [6] (fun z wr => ∃ j : Nat, i ≤ j ∧ j ≤ l.length ∧ z = .int .i64 j ∧ wr = w' ∧ WordAt l 0 i c ts R j) (fun z _ => l.length - (intOf z).toNat)
  case atStart => exact ⟨i, Nat.le_refl _, hi, rfl, rfl, hW0⟩
  case round =>
    obtain ⟨j, hij, hj, rfl, rfl, hcom⟩ := hrel
    replace hcom := hide hcom
    obtain ⟨d, hd2, hdd, hd1, hd0⟩ := tx_at hj
    have hLd := hide (letter_any d.toNat wr)
    have hDd := hide (digit_any d.toNat wr)
    have hgo : (St.word 0 i (wdOf l i j)).goes d = (letterB d.toNat || digitB d.toNat) := rfl
    by_cases hlt3 : j < l.length
    · have hy := str_at (hd1 hlt3)
      have hlt2 : (j : Int) < (l.length : Int) := by omega
      cases hL2 : letterB d.toNat with
      | true =>
        rw [hL2] at hLd hgo
        have hnx := hide (hcom.out.next hc hij hlt3 hd2 hdd fun _ => hgo)
        clear hgo hL2
        go_wp2_with fail
        refine hLd.out.mono ?_
        rintro e w' ⟨rfl, rfl⟩
        go_wp2_with fail
        go_roundw
        case rel => exact ⟨j + 1, by omega, by omega, by go_num, trivial, hnx.out⟩
        case measure => simp [intOf]; omega
      | false =>
        rw [hL2] at hLd hgo
        cases hD2 : digitB d.toNat with
        | true =>
          rw [hD2] at hDd hgo
          have hnx := hide (hcom.out.next hc hij hlt3 hd2 hdd fun _ => hgo)
          clear hgo hL2 hD2
          go_wp2_with fail
          refine hLd.out.mono ?_
          rintro e w' ⟨rfl, rfl⟩
          go_wp2_with fail
          refine hDd.out.mono ?_
          rintro e w' ⟨rfl, rfl⟩
          go_wp2_with fail
          go_roundw
          case rel => exact ⟨j + 1, by omega, by omega, by go_num, trivial, hnx.out⟩
          case measure => simp [intOf]; omega
        | false =>
          rw [hD2] at hDd hgo
          have hlt4 : i < j := by
            rcases Nat.lt_or_ge i j with h | h
            · exact h
            · exfalso
              obtain rfl : i = j := by omega
              rw [hc] at hd2
              injection hd2 with hd2
              rw [← hd2, h3h.out] at hL2
              cases hL2
          have hlw := wdOf_len hij hj
          have hcut := str_wd hij hj
          by_cases h32 : 32 < j - i
          · have hfe := hide (hcom.out.fell hlt4 hdd hgo (n := 53) (by rw [fault_name, if_pos (by omega)]) (by decide))
            have h32' : (32 : Int) < (j : Int) - (i : Int) := by omega
            clear hgo hL2 hD2
            go_wp2_with fail
            refine hLd.out.mono ?_
            rintro e w' ⟨rfl, rfl⟩
            go_wp2_with fail
            refine hDd.out.mono ?_
            rintro e w' ⟨rfl, rfl⟩
            go_wp2_with fail
            exact hQ0.out _ _ i 53 rfl rfl rfl rfl hbr.out hfe.out (by decide)
          · have hst := hide (hcom.out.stop hlt4 hdd hgo (by rw [fault_name, if_neg (by omega)]))
            have h32' : (j : Int) - (i : Int) ≤ 32 := by omega
            clear hgo hL2 hD2
            go_wp2_with fail
            refine hLd.out.mono ?_
            rintro e w' ⟨rfl, rfl⟩
            go_wp2_with fail
            refine hDd.out.mono ?_
            rintro e w' ⟨rfl, rfl⟩
            go_wp2_with (
              at_builtin
              refine wp_tok rfl (.tmp 158) (.tmp 165) rfl W.heap.size v ts rfl (World.ownsRow.alloc hv.out _) _ rfl ⟨0, wdOf l i j, i⟩ ?_ ?_ ?_ (by omega) (Nat.le_trans hbr.out.size (by simp)) ?_
              · simp [go_sem]; done
              · simp [go_sem]; done
              · simp [go_sem]; done
              intro v9 w9 hv9 hb9)
            exact hK1.out _ _ _ (j) _ ⟨rfl, rfl, rfl, by first | rfl | go_num⟩ ⟨hj, by rw [List.length_append]; simp; omega, hv9, (hbr.out.alloc hbr.out.size _).trans hb9, hst.out⟩ (by omega)
    · have hlt2 : ¬ (j : Int) < (l.length : Int) := by omega
      have hd10 := hd0 (by omega)
      have hlt4 : i < j := by omega
      have hgo2 : (St.word 0 i (wdOf l i j)).goes d = false := by rw [hd10]; rfl
      have hlw := wdOf_len hij hj
      have hcut := str_wd hij hj
      by_cases h32 : 32 < j - i
      · have hfe := hide (hcom.out.fell hlt4 hdd hgo2 (n := 53) (by rw [fault_name, if_pos (by omega)]) (by decide))
        have h32' : (32 : Int) < (j : Int) - (i : Int) := by omega
        clear hgo hgo2
        go_wp2_with fail
        exact hQ0.out _ _ i 53 rfl rfl rfl rfl hbr.out hfe.out (by decide)
      · have hst := hide (hcom.out.stop hlt4 hdd hgo2 (by rw [fault_name, if_neg (by omega)]))
        have h32' : (j : Int) - (i : Int) ≤ 32 := by omega
        clear hgo hgo2
        go_wp2_with (
          at_builtin
          refine wp_tok rfl (.tmp 158) (.tmp 165) rfl W.heap.size v ts rfl (World.ownsRow.alloc hv.out _) _ rfl ⟨0, wdOf l i j, i⟩ ?_ ?_ ?_ (by omega) (Nat.le_trans hbr.out.size (by simp)) ?_
          · simp [go_sem]; done
          · simp [go_sem]; done
          · simp [go_sem]; done
          intro v9 w9 hv9 hb9)
        exact hK1.out _ _ _ (j) _ ⟨rfl, rfl, rfl, by first | rfl | go_num⟩ ⟨hj, by rw [List.length_append]; simp; omega, hv9, (hbr.out.alloc hbr.out.size _).trans hb9, hst.out⟩ (by omega)
end Go.Proofs.YtiiihpokpfhclaaDoor
/- A round of the document's Tokens: num. -/
namespace Go.Proofs.YtiiihpokpfhclaaDoor
open Go Go.RowKit
set_option maxRecDepth 1000000 in
set_option maxHeartbeats 4000000 in
theorem ref_num (l : List UInt8) (hl : l.length ≤ 4096) (W wo : World) (R : Res) (i : Nat) (ts : List Tok) (c : UInt8) (v : Value) (K1 : Act → World → Prop) (Q0 : Exit → Act → World → Prop) (hK1 : GoesR l W R i K1) (hQ0 : RetsR W R Q0)
    (hlt : i < l.length) (hts : ts.length ≤ i) (hv : ToksR wo W.heap.size v ts) (hbr : Below W.heap.size W wo) (hrun : runT (St.begin i c) (i + 1) ts ((l ++ [10]).drop (i + 1)) = R) (hc : (l ++ [10])[i]? = some c) (hc1 : l[i]? = some c) (h1 : blankB c.toNat = false) (h2 : ¬ c = 35) (h3 : letterB c.toNat = false) (h5 : digitB c.toNat = true)
    (u1 u2 u3 u4 u7 u8 u9 u10 u11 u12 u13 u14 u15 u16 u17 u18 u19 u20 u21 u22 u23 u24 u25 u26 u27 u28 u29 u30 u31 u32 u33 u34 u35 u36 u37 u38 u39 u40 u41 u42 u43 u44 u45 u46 u47 u48 u49 u50 u51 u52 u53 u54 u55 u56 u57 u58 u59 u60 u61 u62 u63 u64 u65 u66 u67 u68 u69 u70 u71 u72 u73 u74 u75 u76 u77 u78 u79 u80 u81 u82 u83 u84 u85 u86 u87 u88 u89 u90 u91 u92 u93 u94 u95 u96 u97 u98 u99 u100 u101 u102 u103 u104 u105 u106 u107 u108 u109 u110 u111 u112 u113 u114 u115 u116 u117 u118 u119 u120 u121 u122 u123 u124 u125 u126 u127 u128 u129 u130 u131 u132 u133 u134 u135 u136 u137 u138 u139 u140 u141 u142 u143 u144 u145 u146 u147 u148 u149 u150 u151 u152 u153 u154 u155 u156 u157 u158 u159 u160 u161 u162 u163 u164 u165 u166 u167 u168 u169 u170 u171 u172 u173 u174 u175 u176 u177 u178 u179 u180 u181 u182 u183 u184 u185 u186 u187 u188 u189 u190 u191 u192 u193 u194 u195 u196 u197 u198 u199 u200 u201 u202 u203 u204 u205 u206 u207 u208 u209 u210 u211 u212 u213 u214 u215 u216 u217 u218 u219 u220 u221 u222 u223 u224 u225 u226 u227 u228 : Value) :
    Code.wp Tryd.prog refBody (Exit.then K1 Q0) ⟨#[.string (strB l), u1, u2, u3, u4, v, .int .i64 i, u7, u8, u9, u10, u11, u12, u13, u14, u15, u16, u17, u18, u19, u20, u21, u22, u23, u24, u25, u26, u27, u28, u29, u30, u31, u32, u33, u34, u35, u36, u37, u38, u39, u40, u41, u42, u43, u44, u45, u46, u47, u48, u49, u50, u51, u52, u53, u54, u55, u56, u57, u58, u59, u60, u61, u62, u63, u64, u65, u66, u67, u68, u69, u70, u71, u72, u73, u74, u75, u76, u77, u78, u79, u80, u81, u82, u83, u84, u85, u86, u87, u88, u89, u90, u91, u92, u93, u94, u95, u96, u97, u98, u99, u100, u101, u102, u103, u104, u105, u106, u107, u108, u109, u110, u111, u112, u113, u114, u115, u116, u117, u118, u119, u120, u121, u122, u123, u124, u125, u126, u127, u128, u129, u130, u131, u132, u133, u134, u135, u136, u137, u138, u139, u140, u141, u142, u143, u144, u145, u146, u147, u148, u149, u150, u151, u152, u153, u154, u155, u156, u157, u158, u159, u160, u161, u162, u163, u164, u165, u166, u167, u168, u169, u170, u171, u172, u173, u174, u175, u176, u177, u178, u179, u180, u181, u182, u183, u184, u185, u186, u187, u188, u189, u190, u191, u192, u193, u194, u195, u196, u197, u198, u199, u200, u201, u202, u203, u204, u205, u206, u207, u208, u209, u210, u211, u212, u213, u214, u215, u216, u217, u218, u219, u220, u221, u222, u223, u224, u225, u226, u227, u228], []⟩ wo := by
  conv => arg 2; whnf
  have hz : (strB l).size = l.length := rfl
  have hx := str_at hc1
  have hlt' : (i : Int) < (l.length : Int) := by omega
  have hi : i ≤ l.length := by omega
  replace hK1 := hide hK1
  replace hQ0 := hide hQ0
  replace hv := hide hv
  replace hbr := hide hbr
  replace hc1 := hide hc1
  have h1' := h1
  unfold blankB at h1'
  replace h1' := of_decide_eq_false h1'
  have b1 : ((c.toNat : Int) == 32) = false := by rw [beq_eq_false_iff_ne]; omega
  have b2 : ((c.toNat : Int) == 9) = false := by rw [beq_eq_false_iff_ne]; omega
  have b3 : ((c.toNat : Int) == 13) = false := by rw [beq_eq_false_iff_ne]; omega
  have b4 : ((c.toNat : Int) == 10) = false := by rw [beq_eq_false_iff_ne]; omega
  clear h1'
  have hc35 : ((c.toNat : Int) == 35) = false := by
    rw [beq_eq_false_iff_ne]
    intro h
    exact h2 (UInt8.toNat_inj.1 (by show c.toNat = 35; omega))
  have hL := hide (letter_any c.toNat wo)
  rw [h3] at hL
  have hDg := hide (digit_any c.toNat wo)
  rw [begin_num h1 h2 h3 h5] at hrun
  have hW0 : WordAt l 1 i c ts R i := .inl ⟨rfl, hrun⟩
  replace hrun := hide hrun
  have h5h := hide h5
  have h3h := hide h3
  rw [h5] at hDg
  clear h5 h3 h1
  go_wp2_with fail
  refine hL.out.mono ?_
  rintro e w' ⟨rfl, rfl⟩
  go_wp2_with fail
  refine hDg.out.mono ?_
  rintro e w' ⟨rfl, rfl⟩
  go_wp2_with fail
  go_loopw [6, 9, 10] (fun z sn sg wr => ∃ (j : Nat) (a : Int) (g : Bool), i ≤ j ∧ j ≤ l.length ∧ z = .int .i64 j ∧ sn = .int .u64 a ∧ sg = .bool g ∧ wr = w' ∧ WordAt l 1 i c ts R j ∧ NumAt (wdOf l i j) a g) (fun z _ _ _ => l.length - (intOf z).toNat)
  case atStart => exact ⟨i, 0, false, Nat.le_refl _, hi, rfl, rfl, rfl, rfl, hW0, by rw [show wdOf l i i = [] by unfold wdOf; simp]; exact .start⟩
  case round =>
    obtain ⟨j, a, g, hij, hj, rfl, rfl, rfl, rfl, hcom, hnum⟩ := hrel
    replace hcom := hide hcom
    have ha0 := hnum.lo
    have ha1 := hnum.hi
    replace hnum := hide hnum
    obtain ⟨d, hd2, hdd, hd1, hd0⟩ := tx_at hj
    have hLd := hide (letter_any d.toNat wr)
    have hDd := hide (digit_any d.toNat wr)
    have hgo : (St.word 1 i (wdOf l i j)).goes d = digitB d.toNat := rfl
    by_cases hlt3 : j < l.length
    · have hy := str_at (hd1 hlt3)
      have hlt2 : (j : Int) < (l.length : Int) := by omega
      cases hD2 : digitB d.toNat with
      | true =>
        have hdig := hD2
        unfold digitB at hdig
        replace hdig := of_decide_eq_true hdig
        rw [hD2] at hDd hgo
        have hnx := hide (hcom.out.next hc hij hlt3 hd2 hdd fun _ => hgo)
        clear hgo
        by_cases hbig : (922337203685477580 : Int) < a
        · have hn2 := hide (hnum.out.big d hD2 hbig)
          rw [← wdOf_next hij hd2 hlt3] at hn2
          clear hD2
          go_wp2_with fail
          refine hDd.out.mono ?_
          rintro e w' ⟨rfl, rfl⟩
          go_wp2_with fail
          go_roundw
          case rel => exact ⟨j + 1, a, true, by omega, by omega, by go_num, rfl, rfl, trivial, hnx.out, hn2.out⟩
          case measure => simp [intOf]; omega
        · obtain ⟨rfl, hn2⟩ := hnum.out.small d hD2 (by omega)
          rw [← wdOf_next hij hd2 hlt3] at hn2
          replace hn2 := hide hn2
          clear hD2
          go_wp2_with fail
          refine hDd.out.mono ?_
          rintro e w' ⟨rfl, rfl⟩
          go_wp2_with fail
          go_roundw
          case rel => exact ⟨j + 1, 10 * a + ((d.toNat : Int) - 48), false, by omega, by omega, by go_num, rfl, rfl, trivial, hnx.out, hn2.out⟩
          case measure => simp [intOf]; omega
      | false =>
        rw [hD2] at hDd hgo
        have hlt4 : i < j := by
          rcases Nat.lt_or_ge i j with h | h
          · exact h
          · exfalso
            obtain rfl : i = j := by omega
            rw [hc] at hd2
            injection hd2 with hd2
            rw [← hd2, h5h.out] at hD2
            cases hD2
        have hlw := wdOf_len hij hj
        have hcut := str_wd hij hj
        have hhead := wdOf_head hc hlt hlt4
        clear hD2
        by_cases hgr : g = true ∨ 9223372036854775807 < a
        · have hfe := hide (hcom.out.fell hlt4 hdd hgo (n := 53) (by rw [fault_num, faultN, if_pos (hnum.out.great hgr)]) (by decide))
          clear hgo
          rcases hgr with rfl | hgr
          all_goals (
            go_wp2_with fail
            refine hDd.out.mono ?_
            rintro e w' ⟨rfl, rfl⟩
            go_wp2_with fail)
          all_goals (
            exact hQ0.out _ _ i 53 rfl rfl rfl rfl hbr.out hfe.out (by decide))
        · have hgf : g = false := by
            cases g with
            | false => rfl
            | true => exact absurd (.inl rfl) hgr
          subst hgf
          have hle : a ≤ 9223372036854775807 := by
            rcases Int.lt_or_le 9223372036854775807 a with h | h
            · exact absurd (.inr h) hgr
            · exact h
          have hfr := fault_rest (d := d) hhead hlw (hnum.out.fits rfl hle)
          clear hgr
          cases hL2 : letterB d.toNat with
          | true =>
            rw [if_pos (.inl hL2)] at hfr
            rw [hL2] at hLd
            have hfe := hide (hcom.out.fell hlt4 hdd hgo hfr (by decide))
            clear hgo hfr hL2
            go_wp2_with fail
            refine hDd.out.mono ?_
            rintro e w' ⟨rfl, rfl⟩
            go_wp2_with fail
            refine hLd.out.mono ?_
            rintro e w' ⟨rfl, rfl⟩
            go_wp2_with fail
            exact hQ0.out _ _ i 50 rfl rfl rfl rfl hbr.out hfe.out (by decide)
          | false =>
            rw [hL2] at hLd
            by_cases h48 : c.toNat = 48
            · have h48b : ((c.toNat : Int) == 48) = true := by rw [beq_iff_eq]; omega
              by_cases hone : 1 < j - i
              · rw [if_pos (.inr ⟨h48, hone⟩)] at hfr
                have hfe := hide (hcom.out.fell hlt4 hdd hgo hfr (by decide))
                have hone2 : (1 : Int) < (j : Int) - (i : Int) := by omega
                clear hgo hfr
                go_wp2_with fail
                refine hDd.out.mono ?_
                rintro e w' ⟨rfl, rfl⟩
                go_wp2_with fail
                refine hLd.out.mono ?_
                rintro e w' ⟨rfl, rfl⟩
                go_wp2_with fail
                exact hQ0.out _ _ i 50 rfl rfl rfl rfl hbr.out hfe.out (by decide)
              · rw [if_neg (by rw [hL2]; simp; omega)] at hfr
                have hst := hide (hcom.out.stop hlt4 hdd hgo hfr)
                have hone2 : (j : Int) - (i : Int) ≤ 1 := by omega
                clear hgo hfr
                go_wp2_with fail
                refine hDd.out.mono ?_
                rintro e w' ⟨rfl, rfl⟩
                go_wp2_with fail
                refine hLd.out.mono ?_
                rintro e w' ⟨rfl, rfl⟩
                go_wp2_with (
                  at_builtin
                  refine wp_tok rfl (.tmp 219) (.tmp 226) rfl W.heap.size v ts rfl (World.ownsRow.alloc hv.out _) _ rfl ⟨1, wdOf l i j, i⟩ ?_ ?_ ?_ (by omega) (Nat.le_trans hbr.out.size (by simp)) ?_
                  · simp [go_sem]; done
                  · simp [go_sem]; done
                  · simp [go_sem]; done
                  intro v9 w9 hv9 hb9)
                exact hK1.out _ _ _ (j) _ ⟨rfl, rfl, rfl, by first | rfl | go_num⟩ ⟨hj, by rw [List.length_append]; simp; omega, hv9, (hbr.out.alloc hbr.out.size _).trans hb9, hst.out⟩ (by omega)
            · have h48b : ((c.toNat : Int) == 48) = false := by rw [beq_eq_false_iff_ne]; omega
              rw [if_neg (by rw [hL2]; simp [h48])] at hfr
              have hst := hide (hcom.out.stop hlt4 hdd hgo hfr)
              clear hgo hfr
              go_wp2_with fail
              refine hDd.out.mono ?_
              rintro e w' ⟨rfl, rfl⟩
              go_wp2_with fail
              refine hLd.out.mono ?_
              rintro e w' ⟨rfl, rfl⟩
              go_wp2_with (
                at_builtin
                refine wp_tok rfl (.tmp 219) (.tmp 226) rfl W.heap.size v ts rfl (World.ownsRow.alloc hv.out _) _ rfl ⟨1, wdOf l i j, i⟩ ?_ ?_ ?_ (by omega) (Nat.le_trans hbr.out.size (by simp)) ?_
                · simp [go_sem]; done
                · simp [go_sem]; done
                · simp [go_sem]; done
                intro v9 w9 hv9 hb9)
              exact hK1.out _ _ _ (j) _ ⟨rfl, rfl, rfl, by first | rfl | go_num⟩ ⟨hj, by rw [List.length_append]; simp; omega, hv9, (hbr.out.alloc hbr.out.size _).trans hb9, hst.out⟩ (by omega)
    · have hlt2 : ¬ (j : Int) < (l.length : Int) := by omega
      have hd10 := hd0 (by omega)
      have hlt4 : i < j := by omega
      have hgo2 : (St.word 1 i (wdOf l i j)).goes d = false := by rw [hd10]; rfl
      have hlw := wdOf_len hij hj
      have hcut := str_wd hij hj
      have hhead := wdOf_head hc hlt hlt4
      by_cases hgr : g = true ∨ 9223372036854775807 < a
      · have hfe := hide (hcom.out.fell hlt4 hdd hgo2 (n := 53) (by rw [fault_num, faultN, if_pos (hnum.out.great hgr)]) (by decide))
        clear hgo
        rcases hgr with rfl | hgr
        all_goals (
          go_wp2_with fail)
        all_goals (
          exact hQ0.out _ _ i 53 rfl rfl rfl rfl hbr.out hfe.out (by decide))
      · have hgf : g = false := by
          cases g with
          | false => rfl
          | true => exact absurd (.inl rfl) hgr
        subst hgf
        have hle : a ≤ 9223372036854775807 := by
          rcases Int.lt_or_le 9223372036854775807 a with h | h
          · exact absurd (.inr h) hgr
          · exact h
        have hfr := fault_rest (d := d) hhead hlw (hnum.out.fits rfl hle)
        clear hgr
        have hL2 : letterB d.toNat = false := by rw [hd10]; rfl
        by_cases h48 : c.toNat = 48
        · have h48b : ((c.toNat : Int) == 48) = true := by rw [beq_iff_eq]; omega
          by_cases hone : 1 < j - i
          · rw [if_pos (.inr ⟨h48, hone⟩)] at hfr
            have hfe := hide (hcom.out.fell hlt4 hdd hgo2 hfr (by decide))
            have hone2 : (1 : Int) < (j : Int) - (i : Int) := by omega
            clear hgo hfr
            go_wp2_with fail
            exact hQ0.out _ _ i 50 rfl rfl rfl rfl hbr.out hfe.out (by decide)
          · rw [if_neg (by rw [hL2]; simp; omega)] at hfr
            have hst := hide (hcom.out.stop hlt4 hdd hgo2 hfr)
            have hone2 : (j : Int) - (i : Int) ≤ 1 := by omega
            clear hgo hfr
            go_wp2_with (
              at_builtin
              refine wp_tok rfl (.tmp 219) (.tmp 226) rfl W.heap.size v ts rfl (World.ownsRow.alloc hv.out _) _ rfl ⟨1, wdOf l i j, i⟩ ?_ ?_ ?_ (by omega) (Nat.le_trans hbr.out.size (by simp)) ?_
              · simp [go_sem]; done
              · simp [go_sem]; done
              · simp [go_sem]; done
              intro v9 w9 hv9 hb9)
            exact hK1.out _ _ _ (j) _ ⟨rfl, rfl, rfl, by first | rfl | go_num⟩ ⟨hj, by rw [List.length_append]; simp; omega, hv9, (hbr.out.alloc hbr.out.size _).trans hb9, hst.out⟩ (by omega)
        · have h48b : ((c.toNat : Int) == 48) = false := by rw [beq_eq_false_iff_ne]; omega
          rw [if_neg (by rw [hL2]; simp [h48])] at hfr
          have hst := hide (hcom.out.stop hlt4 hdd hgo2 hfr)
          clear hgo hfr
          go_wp2_with (
            at_builtin
            refine wp_tok rfl (.tmp 219) (.tmp 226) rfl W.heap.size v ts rfl (World.ownsRow.alloc hv.out _) _ rfl ⟨1, wdOf l i j, i⟩ ?_ ?_ ?_ (by omega) (Nat.le_trans hbr.out.size (by simp)) ?_
            · simp [go_sem]; done
            · simp [go_sem]; done
            · simp [go_sem]; done
            intro v9 w9 hv9 hb9)
          exact hK1.out _ _ _ (j) _ ⟨rfl, rfl, rfl, by first | rfl | go_num⟩ ⟨hj, by rw [List.length_append]; simp; omega, hv9, (hbr.out.alloc hbr.out.size _).trans hb9, hst.out⟩ (by omega)
end Go.Proofs.YtiiihpokpfhclaaDoor
