/- What the walk of the document's Tokens wants: one, an append of a token, how the reading of bytes goes on. -/
import Derived.Test.YtibbaofmdechcaaDoorLxE
import Derived.OwnWalk
namespace Go.Proofs.YtibbaofmdechcaaDoor
open Go Go.RowKit

set_option maxRecDepth 100000 in
theorem one_any (l : List UInt8) (c : UInt8) (hl : l.length ≤ 1000000) (w : World) : Calls Tryd.prog 19 #[.string (strB l), .int .u8 c.toNat] w fun e w' => e = .returned (.bool (l.contains c)) ∧ Below w.heap.size w w' := by
  have hz : (strB l).size = l.length := rfl
  generalize hQ : (fun e w' => e = Ending.returned (.bool (l.contains c)) ∧ Below w.heap.size w w') = Q
  replace hQ := hide hQ
  go_enter Tryd.func19, Tryd.ntmps19
  go_wp2_with fail
  go_loopw [5] (fun z wr => ∃ i : Nat, i ≤ l.length ∧ z = .int .i64 i ∧ wr = w ∧ l.contains c = (l.drop i).contains c) (fun z _ => l.length - (intOf z).toNat)
  case atStart => exact ⟨0, Nat.zero_le _, rfl, rfl, rfl⟩
  case round =>
    obtain ⟨i, hi, rfl, rfl, hc⟩ := hrel
    by_cases hlt : i < l.length
    · have hlt' : (i : Int) < (l.length : Int) := by omega
      obtain ⟨d, hd, hdr⟩ := drop_at hlt
      have hx := str_at hd
      rw [hdr, List.contains_cons] at hc
      replace hc := hide hc
      by_cases he : c = d
      · subst he
        go_wp2_with fail
        show Q (.returned (.bool true)) _
        rw [← hQ.out]
        exact ⟨by rw [hc.out]; simp, Below.refl _ _⟩
      · have he' : ((d.toNat : Int) == (c.toNat : Int)) = false := by
          rw [beq_eq_false_iff_ne]
          intro h
          exact he (UInt8.toNat_inj.1 (by omega))
        go_wp2_with fail
        go_roundw
        case rel => exact ⟨i + 1, by omega, by go_num, trivial, by rw [hc.out]; simp [he]⟩
        case measure => simp [intOf]; omega
    · obtain rfl : i = l.length := by omega
      rw [List.drop_length] at hc
      replace hc := hide hc
      go_wp2_with fail
      show Q (.returned (.bool false)) _
      rw [← hQ.out]
      exact ⟨by rw [hc.out]; rfl, Below.refl _ _⟩

/-- The walk's law: a token behind a row of the call's own. -/
theorem wp_tok {w : World} {ops : Array Oper} {rest : List Oper} {o : Oper} {a : Act} {Q : Exit → Act → World → Prop} (hgd : o.guard = none) (s x : Operand) (ho : o.op = .call { callee := .builtin .append, args := #[s, x], argTypes := #[23, 23] })
    (B : Nat) (v : Value) (ts : List Tok) (hs : a.eval s = v) (hown : ToksR w B v ts) (g : Nat) (hx : a.eval x = .slice (some ⟨g, 0, none⟩) 1 1) (t : Tok)
    (h0 : w.cell? ⟨g, 0, none⟩ = some (.int .i64 t.kind)) (h1 : w.cell? ⟨g, 1, none⟩ = some (.string (strB t.text))) (h2 : w.cell? ⟨g, 2, none⟩ = some (.int .i64 t.at_)) (hlen : ts.length ≤ 1000000) (hbase : B ≤ w.heap.size)
    (h : ∀ v' w', ToksR w' B v' (ts ++ [t]) → Below B w w' → wpList Tryd.prog ops Q rest (a.put o.dst v') w') : wpList Tryd.prog ops Q (o :: rest) a w := by
  obtain ⟨i0, hi, hz0, hz1, hz2⟩ := info_parts tok_info
  refine wpList_append_own w hgd s x 23 ho B 34 i0 (.agg #[.int .i64 0, .string .empty, .int .i64 0]) 3 32 Tryd.underlying23 hi hz0 hz1 hz2 rfl (by decide) v ts.length ((ts.map Tok.cells).flatten) hs hown ⟨g, 0, none⟩ 1 1 (Tok.cells t) hx rfl (three_cells h0 h1 h2) ?_ ?_ ?_ hbase ?_
  · simp [Tok.cells, Value.oneCell']
  · unfold maxLen; omega
  · omega
  · intro v' w' h3 h4 _
    refine h v' w' ?_ ((Below.refl B w).grown h4 (by omega) fun k hk => (World.ownsRow.lt hown k hk).1)
    unfold ToksR
    rw [List.length_append, List.map_append, List.flatten_append]
    simpa using h3
theorem runT_fresh {st : St} {i : Nat} {ts ts' : List Tok} {c : UInt8} {r : List UInt8} (h : st.goes c = false) (hf : st.fin ts c = .ok ts') : runT st i ts (c :: r) = runT .blank i ts' (c :: r) := by
  rw [runT_ok h hf, runT_ok (st := .blank) rfl rfl]
theorem runT_start (i : Nat) (ts : List Tok) (c : UInt8) (r : List UInt8) : runT .blank i ts (c :: r) = runT (St.begin i c) (i + 1) ts r := runT_ok rfl rfl
theorem valL_snoc (w : List UInt8) (c : UInt8) : valL (w ++ [c]) = 10 * valL w + (c.toNat - 48) := by
  unfold valL
  rw [List.foldl_append]; rfl
theorem begin_blank {i : Nat} {c : UInt8} (h : blankB c.toNat = true) : St.begin i c = .blank := by unfold St.begin; rw [if_pos h]
theorem begin_com {i : Nat} : St.begin i 35 = .com := rfl
theorem begin_name {i : Nat} {c : UInt8} (h1 : blankB c.toNat = false) (h2 : c ≠ 35) (h3 : letterB c.toNat = true) : St.begin i c = .word 0 i [c] := by unfold St.begin; rw [if_neg (by rw [h1]; simp), if_neg h2, if_pos h3]
theorem begin_num {i : Nat} {c : UInt8} (h1 : blankB c.toNat = false) (h2 : c ≠ 35) (h3 : letterB c.toNat = false) (h4 : digitB c.toNat = true) : St.begin i c = .word 1 i [c] := by unfold St.begin; rw [if_neg (by rw [h1]; simp), if_neg h2, if_neg (by rw [h3]; simp), if_pos h4]
theorem begin_op {i : Nat} {c : UInt8} (h1 : blankB c.toNat = false) (h2 : c ≠ 35) (h3 : letterB c.toNat = false) (h4 : digitB c.toNat = false) : St.begin i c = .word 2 i [c] := by unfold St.begin; rw [if_neg (by rw [h1]; simp), if_neg h2, if_neg (by rw [h3]; simp), if_neg (by rw [h4]; simp)]
/-- The text with its last byte: what stands at i. -/
theorem tx_at {l : List UInt8} {i : Nat} (h : i ≤ l.length) : ∃ c, (l ++ [10])[i]? = some c ∧ (l ++ [10]).drop i = c :: (l ++ [10]).drop (i + 1) ∧ (i < l.length → l[i]? = some c) ∧ (i = l.length → c = 10) := by
  obtain ⟨c, h1, h2⟩ := drop_at (T := l ++ [10]) (i := i) (by simp; omega)
  refine ⟨c, h1, h2, fun hi => ?_, fun hi => ?_⟩
  · rw [List.getElem?_append_left hi] at h1; exact h1
  · subst hi
    rw [List.getElem?_append_right (Nat.le_refl _)] at h1
    simpa using h1.symm
/-- A word from i on, read up to j. -/
def wdOf (l : List UInt8) (i j : Nat) : List UInt8 := (l.drop i).take (j - i)
theorem wdOf_len {l : List UInt8} {i j : Nat} (hij : i ≤ j) (hj : j ≤ l.length) : (wdOf l i j).length = j - i := by
  unfold wdOf; rw [List.length_take, List.length_drop]; omega
theorem wdOf_one {l : List UInt8} {i : Nat} {c : UInt8} (h : (l ++ [10])[i]? = some c) (hi : i < l.length) : wdOf l i (i + 1) = [c] := by
  unfold wdOf
  rw [List.getElem?_append_left hi] at h
  rw [take_next (Nat.le_refl i) h]
  simp
theorem wdOf_next {l : List UInt8} {i j : Nat} {c : UInt8} (hij : i ≤ j) (h : (l ++ [10])[j]? = some c) (hj : j < l.length) : wdOf l i (j + 1) = wdOf l i j ++ [c] := by
  unfold wdOf
  rw [List.getElem?_append_left hj] at h
  exact take_next hij h
/-- A word of a kind that began at i with c is read up to j. -/
def WordAt (l : List UInt8) (k i : Nat) (c : UInt8) (ts : List Tok) (R : Res) (j : Nat) : Prop :=
  (j = i ∧ runT (.word k i [c]) (i + 1) ts ((l ++ [10]).drop (i + 1)) = R) ∨ (i < j ∧ runT (.word k i (wdOf l i j)) j ts ((l ++ [10]).drop j) = R)
section
variable {l : List UInt8} {k i : Nat} {c : UInt8} {ts : List Tok} {R : Res} {j : Nat} {d : UInt8}
theorem WordAt.next (h : WordAt l k i c ts R j) (hc : (l ++ [10])[i]? = some c) (hij : i ≤ j) (hj : j < l.length) (hd : (l ++ [10])[j]? = some d) (hdd : (l ++ [10]).drop j = d :: (l ++ [10]).drop (j + 1)) (hg : i < j → (St.word k i (wdOf l i j)).goes d = true) : WordAt l k i c ts R (j + 1) := by
  refine .inr ⟨by omega, ?_⟩
  rcases h with ⟨rfl, h⟩ | ⟨hlt, h⟩
  · rw [wdOf_one hc hj]; exact h
  · rw [hdd, runT_goes (hg hlt)] at h
    rw [wdOf_next hij hd hj]
    exact h
theorem WordAt.stop (h : WordAt l k i c ts R j) (hlt : i < j) (hdd : (l ++ [10]).drop j = d :: (l ++ [10]).drop (j + 1)) (hg : (St.word k i (wdOf l i j)).goes d = false) (hf : fault k (wdOf l i j) d = 0) : runT .blank j (ts ++ [⟨k, wdOf l i j, i⟩]) ((l ++ [10]).drop j) = R := by
  rcases h with ⟨rfl, h⟩ | ⟨_, h⟩
  · omega
  · rw [hdd, runT_fresh hg (fin_ok hf), ← hdd] at h
    exact h
theorem WordAt.fell {n : Nat} (h : WordAt l k i c ts R j) (hlt : i < j) (hdd : (l ++ [10]).drop j = d :: (l ++ [10]).drop (j + 1)) (hg : (St.word k i (wdOf l i j)).goes d = false) (hf : fault k (wdOf l i j) d = n) (hn : n ≠ 0) : R = .error (i, n) := by
  rcases h with ⟨rfl, h⟩ | ⟨_, h⟩
  · omega
  · rw [hdd, runT_err hg (fin_err hf hn)] at h
    exact h.symm
end
/-- What the document's Tokens keeps of a number's digits: their sum, or that it is too great. -/
def NumAt (wd : List UInt8) (a : Int) (g : Bool) : Prop := (∀ c ∈ wd, digitB c.toNat = true) ∧ 0 ≤ a ∧ a ≤ 9223372036854775809 ∧ (g = false ∧ a = valL wd ∨ g = true ∧ 922337203685477580 < a ∧ 9223372036854775807 < valL wd)
section
variable {wd : List UInt8} {a : Int} {g : Bool}
theorem NumAt.start : NumAt [] 0 false := ⟨fun _ h => by simp at h, by omega, by omega, .inl ⟨rfl, rfl⟩⟩
theorem NumAt.lo (h : NumAt wd a g) : 0 ≤ a := h.2.1
theorem NumAt.hi (h : NumAt wd a g) : a ≤ 9223372036854775809 := h.2.2.1
theorem NumAt.digits (h : NumAt wd a g) {d : UInt8} (hd : digitB d.toNat = true) : ∀ c ∈ wd ++ [d], digitB c.toNat = true := by
  intro c hc
  rw [List.mem_append, List.mem_singleton] at hc
  rcases hc with hc | rfl
  · exact h.1 c hc
  · exact hd
theorem NumAt.big (h : NumAt wd a g) (d : UInt8) (hd : digitB d.toNat = true) (hb : (922337203685477580 : Int) < a) : NumAt (wd ++ [d]) a true := by
  refine ⟨h.digits hd, h.lo, h.hi, .inr ⟨rfl, hb, ?_⟩⟩
  rw [valL_snoc]
  rcases h.2.2.2 with ⟨-, h1⟩ | ⟨-, -, h1⟩
  · omega
  · omega
theorem NumAt.small (h : NumAt wd a g) (d : UInt8) (hd : digitB d.toNat = true) (hb : a ≤ 922337203685477580) : g = false ∧ NumAt (wd ++ [d]) (10 * a + ((d.toNat : Int) - 48)) g := by
  have hdd := hd
  unfold digitB at hdd
  replace hdd := of_decide_eq_true hdd
  rcases h.2.2.2 with ⟨h0, h1⟩ | ⟨-, h1, -⟩
  · have := h.lo
    refine ⟨h0, h.digits hd, by omega, by omega, .inl ⟨h0, ?_⟩⟩
    rw [valL_snoc]
    omega
  · omega
theorem NumAt.great (h : NumAt wd a g) (hg : g = true ∨ 9223372036854775807 < a) : 9223372036854775807 < valL wd := by
  rcases h.2.2.2 with ⟨h0, h1⟩ | ⟨-, -, h1⟩
  · rcases hg with hg | hg
    · rw [h0] at hg; cases hg
    · omega
  · exact h1
theorem NumAt.fits (h : NumAt wd a g) (hg : g = false) (ha : a ≤ 9223372036854775807) : ¬ 9223372036854775807 < valL wd := by
  rcases h.2.2.2 with ⟨h0, h1⟩ | ⟨h0, -, -⟩
  · omega
  · rw [hg] at h0; cases h0
end
theorem wdOf_head {l : List UInt8} {i j : Nat} {c : UInt8} (h : (l ++ [10])[i]? = some c) (hi : i < l.length) (hij : i < j) : (wdOf l i j).headD 0 = c := by
  unfold wdOf
  rw [List.getElem?_append_left hi] at h
  rw [List.drop_eq_getElem_cons hi]
  obtain ⟨k, hk⟩ : ∃ k, j - i = k + 1 := ⟨j - i - 1, by omega⟩
  rw [hk, List.take_succ_cons]
  rw [List.getElem?_eq_getElem hi] at h
  exact Option.some.inj h
theorem fault_num (wd : List UInt8) (d : UInt8) : fault 1 wd d = faultN wd d := rfl
theorem fault_rest {wd : List UInt8} {c d : UInt8} {n : Nat} (hh : wd.headD 0 = c) (hl : wd.length = n) (hv : ¬ 9223372036854775807 < valL wd) : fault 1 wd d = if letterB d.toNat = true ∨ (c.toNat = 48 ∧ 1 < n) then 50 else 0 := by
  rw [fault_num, faultN, if_neg hv, hh, hl]
  have e : ((letterB d.toNat || (c == 48 && decide (1 < n))) = true) = (letterB d.toNat = true ∨ (c.toNat = 48 ∧ 1 < n)) := by
    rw [Bool.or_eq_true, Bool.and_eq_true, beq_iff_eq, decide_eq_true_iff]
    have : (c = 48) = (c.toNat = 48) := propext ⟨fun h => by rw [h]; rfl, fun h => UInt8.toNat_inj.1 (by rw [h]; rfl)⟩
    rw [this]
  simp only [e]
theorem ToksR.below {w w' : World} {B : Nat} {v : Value} {ts : List Tok} (h : ToksR w B v ts) (hb : Below w.heap.size w w') : ToksR w' B v ts := (Upd.of_below (fun _ => False) hb).own h fun _ _ => id
/-- The signs of one byte. -/
def signs : List UInt8 := [61, 60, 62, 43, 45, 42, 47, 37, 38, 33, 40, 41, 123, 125, 91, 93, 44, 59]
theorem isOp_one (c : UInt8) : isOp [c] = signs.contains c := by
  unfold isOp opsL signs
  rw [Bool.eq_iff_iff]
  simp
theorem isOp_two {c d : UInt8} : isOp [c, d] = true ↔ (c = 61 ∧ d = 61) ∨ (c = 33 ∧ d = 61) ∨ (c = 60 ∧ d = 61) ∨ (c = 62 ∧ d = 61) ∨ (c = 38 ∧ d = 38) ∨ (c = 124 ∧ d = 124) := by
  unfold isOp opsL
  simp
theorem isOp_three (c d e : UInt8) : isOp [c, d, e] = false := by
  unfold isOp opsL
  rw [Bool.eq_false_iff]
  simp
theorem isOp_end (c : UInt8) : isOp [c, 10] = false := by
  unfold isOp opsL
  rw [Bool.eq_false_iff]
  simp
section
variable {l : List UInt8} {i : Nat} {c d e : UInt8} {ts : List Tok} {R : Res}
theorem op_two (h : runT (.word 2 i [c]) (i + 1) ts ((l ++ [10]).drop (i + 1)) = R) (hd : (l ++ [10]).drop (i + 1) = d :: (l ++ [10]).drop (i + 1 + 1)) (he : (l ++ [10]).drop (i + 1 + 1) = e :: (l ++ [10]).drop (i + 1 + 1 + 1)) (ho : isOp [c, d] = true) : runT .blank (i + 1 + 1) (ts ++ [⟨2, [c, d], i⟩]) ((l ++ [10]).drop (i + 1 + 1)) = R := by
  rw [hd, runT_goes (st := .word 2 i [c]) ho] at h
  have hf : fault 2 [c, d] e = 0 := by rw [fault_op, if_pos ho]
  have hg : (St.word 2 i [c, d]).goes e = false := isOp_three c d e
  rw [he]
  rw [he] at h
  rw [← runT_fresh hg (fin_ok hf)]
  exact h
theorem op_one (h : runT (.word 2 i [c]) (i + 1) ts ((l ++ [10]).drop (i + 1)) = R) (hd : (l ++ [10]).drop (i + 1) = d :: (l ++ [10]).drop (i + 1 + 1)) (ho : isOp [c, d] = false) (h1 : isOp [c] = true) : runT .blank (i + 1) (ts ++ [⟨2, [c], i⟩]) ((l ++ [10]).drop (i + 1)) = R := by
  have hf : fault 2 [c] d = 0 := by rw [fault_op, if_pos h1]
  have hg : (St.word 2 i [c]).goes d = false := ho
  rw [hd] at h ⊢
  rw [← runT_fresh hg (fin_ok hf)]
  exact h
theorem op_fell (h : runT (.word 2 i [c]) (i + 1) ts ((l ++ [10]).drop (i + 1)) = R) (hd : (l ++ [10]).drop (i + 1) = d :: (l ++ [10]).drop (i + 1 + 1)) (ho : isOp [c, d] = false) (h1 : isOp [c] = false) : R = .error (i, 50) := by
  have hf : fault 2 [c] d = 50 := by rw [fault_op, if_neg (by rw [h1]; simp)]
  have hg : (St.word 2 i [c]).goes d = false := ho
  rw [hd, runT_err hg (fin_err hf (by decide))] at h
  exact h.symm
end
theorem wdOf_two {l : List UInt8} {i : Nat} {c d : UInt8} (h : (l ++ [10])[i]? = some c) (hd : (l ++ [10])[i + 1]? = some d) (hi : i + 1 < l.length) : wdOf l i (i + 1 + 1) = [c, d] := by
  rw [wdOf_next (by omega) hd hi, wdOf_one h (by omega)]
  rfl
theorem str_wd {l : List UInt8} {i j : Nat} (hij : i ≤ j) (hj : j ≤ l.length) (w : World) : (Instr.slice 9 (.string (strB l)) (some (.int .i64 i)) (some (.int .i64 j)) none).run Tryd.prog w = .ok (.string (strB (wdOf l i j))) w := str_cut hij hj w
theorem cut_next {l : List UInt8} {f i : Nat} {c : UInt8} (hf : f ≤ i) (h : (l ++ [10])[i]? = some c) : ((l ++ [10]).drop f).take (i + 1 - f) = ((l ++ [10]).drop f).take (i - f) ++ [c] := take_next hf h
end Go.Proofs.YtibbaofmdechcaaDoor
