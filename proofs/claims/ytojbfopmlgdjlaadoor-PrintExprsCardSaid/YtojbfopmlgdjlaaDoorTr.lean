/- Trees of expressions: those that came in, those that a text tells; what is read of them. -/
import Derived.Test.YtojbfopmlgdjlaaDoorPt
import Derived.Test.YtojbfopmlgdjlaaDoorGLxA
import Derived.Test.YtojbfopmlgdjlaaDoorFrame
import Derived.Deep.Trees
import Derived.Lib.ItoaLen
namespace Go.Proofs.YtojbfopmlgdjlaaDoor
open Go Go.RowKit Go.Deep Go.ChangeShapes Go.WideShapes

abbrev XT := BT (Int × Int × ByteArray)
/-- A node's five cells. -/
def NdV (w : World) (S : Nat → Prop) (b o : Nat) (k n : Int) (s : ByteArray) (va vb : Value) : Prop :=
  S b ∧ w.cell? ⟨b, o, none⟩ = some (.int .i64 k) ∧ w.cell? ⟨b, o + 1, none⟩ = some (.int .i64 n) ∧ w.cell? ⟨b, o + 2, none⟩ = some (.string s) ∧ w.cell? ⟨b, o + 3, none⟩ = some va ∧ w.cell? ⟨b, o + 4, none⟩ = some vb
theorem NdV.upd {w w' : World} {S F : Nat → Prop} {b o : Nat} {k n : Int} {s : ByteArray} {va vb : Value} (h : NdV w S b o k n s va vb) (hu : Upd F w w') (hS : ∀ b, S b → ¬ F b) : NdV w' S b o k n s va vb :=
  ⟨h.1, hu.cell h.2.1 (hS _ h.1), hu.cell h.2.2.1 (hS _ h.1), hu.cell h.2.2.2.1 (hS _ h.1), hu.cell h.2.2.2.2.1 (hS _ h.1), hu.cell h.2.2.2.2.2 (hS _ h.1)⟩
def TrV (w : World) (S : Nat → Prop) : XT → Prop
  | .nil => True
  | .node b o a l r => NdV w S b o a.1 a.2.1 a.2.2 l.ptr r.ptr ∧ (Lit.int .i64 a.1).wf = true ∧ (Lit.int .i64 a.2.1).wf = true ∧ a.2.2.size ≤ maxLen ∧ TrV w S l ∧ TrV w S r
theorem TrV.upd {w w' : World} {S F : Nat → Prop} (hu : Upd F w w') (hS : ∀ b, S b → ¬ F b) : ∀ {T : XT}, TrV w S T → TrV w' S T
  | .nil, _ => trivial
  | .node _ _ _ _ _, ⟨h1, h2, h3, h4, h5, h6⟩ => ⟨h1.upd hu hS, h2, h3, h4, TrV.upd hu hS h5, TrV.upd hu hS h6⟩
theorem tr_cI : Tryd.prog.cellsOf 3 = 1 := by kernel_rfl
theorem tr_cL : Tryd.prog.cellsOf 2 = 1 := by kernel_rfl
theorem tr_cS : Tryd.prog.cellsOf 9 = 1 := by kernel_rfl
theorem tr_cE : Tryd.prog.cellsOf 22 = 1 := by kernel_rfl
section
variable {H : Type} {enc : TypeId × Value → H} {w : World} {base : Nat} {sp : Nat → Bool} {hd : Bool}
set_option maxRecDepth 100000 in
theorem open_tr : ∀ (fuel : Nat) (cs : List Value) (x : DataW H × List MemPlace), DataW.trod enc Tryd.prog w base sp hd fuel 22 cs = some x → ∃ T : XT, cs = [T.ptr] ∧ TrV w (· < w.heap.size) T := by
  intro fuel
  induction fuel using Nat.strongRecOn with
  | _ fuel ih =>
    intro cs x h
    rcases DataW.trod_pointer Tryd.underlying22 h with ⟨rfl, rfl⟩ | ⟨a, cs', y, m, rfl, rfl, rfl, hcells, hy⟩
    · exact ⟨.nil, rfl, trivial⟩
    · obtain ⟨hb, _, hcell⟩ := World.cells?_some hcells
      obtain ⟨xs, m', rfl, -, hl, hlen, hf⟩ := DataW.trod_struct Tryd.underlying46 hy
      have hC : Tryd.prog.cellsOf 46 = 5 := by kernel_rfl
      rw [hC] at hl hcell
      match cs', hl with
      | [v0, v1, v2, v3, v4], _ =>
        match xs, hlen with
        | [y0, y1, y2, y3, y4], _ =>
          have g0 := hf 0 _ rfl
          have g1 := hf 1 _ rfl
          have g2 := hf 2 _ rfl
          have g3 := hf 3 _ rfl
          have g4 := hf 4 _ rfl
          simp only [List.getElem_toArray, List.getElem_cons_zero, List.getElem_cons_succ, tr_cI, tr_cL, tr_cS, tr_cE] at g0 g1 g2 g3 g4
          obtain ⟨k, e0, -, wk⟩ := DataW.trod_int Tryd.underlying3 g0
          obtain ⟨n, e1, -, wn⟩ := DataW.trod_int Tryd.underlying2 g1
          obtain ⟨s, e2, -, ws⟩ := DataW.trod_string Tryd.underlying9 g2
          obtain ⟨Tl, e3, hl3⟩ := ih m' (by omega) _ _ g3
          obtain ⟨Tr, e4, hl4⟩ := ih m' (by omega) _ _ g4
          simp at e0 e1 e2 e3 e4
          subst e0 e1 e2 e3 e4
          obtain ⟨b, off, spot⟩ := a
          have h0 := hcell 0 (by omega)
          have hspot : spot = none := by simpa [Addr.add] using World.cell?_spot h0
          subst hspot
          have hlt : b < w.heap.size := World.block_lt_of_cell? _ _ h0
          have hc : ∀ i, i < 5 → w.cell? ⟨b, off + i, none⟩ = [Value.int .i64 k, .int .i64 n, .string s, Tl.ptr, Tr.ptr][i]? := fun i hi => by
            have := hcell i hi
            rwa [add_plain] at this
          exact ⟨.node b off (k, n, s) Tl Tr, rfl, ⟨hlt, hc 0 (by omega), hc 1 (by omega), hc 2 (by omega), hc 3 (by omega), hc 4 (by omega)⟩, wk, wn, ws, hl3, hl4⟩
end
/-- An expression in memory, in blocks of S, each node anywhere in its block. -/
def ExA (w : World) (S : Nat → Prop) : Ex → Value → Prop
  | .num n, v => ∃ b o, v = .pointer (some ⟨b, o, none⟩) ∧ NdV w S b o 0 n ⟨#[]⟩ (.pointer none) (.pointer none)
  | .var s, v => ∃ b o, v = .pointer (some ⟨b, o, none⟩) ∧ NdV w S b o 1 0 (strB s) (.pointer none) (.pointer none)
  | .neg a, v => ∃ b o va, v = .pointer (some ⟨b, o, none⟩) ∧ NdV w S b o 7 0 ⟨#[]⟩ va (.pointer none) ∧ ExA w S a va
  | .bin k x y, v => ∃ b o va vb, v = .pointer (some ⟨b, o, none⟩) ∧ NdV w S b o k 0 ⟨#[]⟩ va vb ∧ ExA w S x va ∧ ExA w S y vb
theorem ExA.upd {w w' : World} {S F : Nat → Prop} (hu : Upd F w w') (hS : ∀ b, S b → ¬ F b) : ∀ {e : Ex} {v : Value}, ExA w S e v → ExA w' S e v
  | .num _, _, ⟨b, o, h1, h2⟩ => ⟨b, o, h1, h2.upd hu hS⟩
  | .var _, _, ⟨b, o, h1, h2⟩ => ⟨b, o, h1, h2.upd hu hS⟩
  | .neg _, _, ⟨b, o, va, h1, h2, h3⟩ => ⟨b, o, va, h1, h2.upd hu hS, ExA.upd hu hS h3⟩
  | .bin _ _ _, _, ⟨b, o, va, vb, h1, h2, h3, h4⟩ => ⟨b, o, va, vb, h1, h2.upd hu hS, ExA.upd hu hS h3, ExA.upd hu hS h4⟩
theorem ExA.mono {w : World} {S S' : Nat → Prop} (hS : ∀ b, S b → S' b) : ∀ {e : Ex} {v : Value}, ExA w S e v → ExA w S' e v
  | .num _, _, ⟨b, o, h1, h2⟩ => ⟨b, o, h1, hS _ h2.1, h2.2⟩
  | .var _, _, ⟨b, o, h1, h2⟩ => ⟨b, o, h1, hS _ h2.1, h2.2⟩
  | .neg _, _, ⟨b, o, va, h1, h2, h3⟩ => ⟨b, o, va, h1, ⟨hS _ h2.1, h2.2⟩, ExA.mono hS h3⟩
  | .bin _ _ _, _, ⟨b, o, va, vb, h1, h2, h3, h4⟩ => ⟨b, o, va, vb, h1, ⟨hS _ h2.1, h2.2⟩, ExA.mono hS h3, ExA.mono hS h4⟩
theorem ExA.ptr {w : World} {S : Nat → Prop} : ∀ {e : Ex} {v : Value}, ExA w S e v → ∃ b o, v = .pointer (some ⟨b, o, none⟩)
  | .num _, _, ⟨b, o, h, _⟩ => ⟨b, o, h⟩
  | .var _, _, ⟨b, o, h, _⟩ => ⟨b, o, h⟩
  | .neg _, _, ⟨b, o, _, h, _⟩ => ⟨b, o, h⟩
  | .bin _ _ _, _, ⟨b, o, _, _, h, _⟩ => ⟨b, o, h⟩

theorem ExA.low {w w' : World} {B : Nat} {e : Ex} {v : Value} (h : ExA w (· < B) e v) (hb : Below B w w') : ExA w' (· < B) e v :=
  h.upd (F := (B ≤ ·)) ⟨hb.os, hb.tape, hb.output, hb.size, fun k _ hn => hb.block k (Nat.lt_of_not_le hn)⟩ fun _ h1 h2 => Nat.lt_irrefl _ (Nat.lt_of_lt_of_le h1 h2)
def kindE : Ex → Nat
  | .num _ => 0
  | .var _ => 1
  | .neg _ => 7
  | .bin k _ _ => k
theorem ExA.kind {w : World} {S : Nat → Prop} : ∀ {e : Ex} {v : Value}, ExA w S e v → ∃ (b o k : Nat), v = .pointer (some ⟨b, o, none⟩) ∧ w.cell? ⟨b, o, none⟩ = some (.int .i64 k) ∧ S b ∧ k = kindE e
  | .num _, _, ⟨b, o, h, h2⟩ => ⟨b, o, 0, h, h2.2.1, h2.1, rfl⟩
  | .var _, _, ⟨b, o, h, h2⟩ => ⟨b, o, 1, h, h2.2.1, h2.1, rfl⟩
  | .neg _, _, ⟨b, o, _, h, h2, _⟩ => ⟨b, o, 7, h, h2.2.1, h2.1, rfl⟩
  | .bin k _ _, _, ⟨b, o, _, _, h, h2, _, _⟩ => ⟨b, o, k, h, h2.2.1, h2.1, rfl⟩
theorem kind_bind {e : Ex} {k : Nat} (hk : k = kindE e) : bindE e = bindK k := by
  cases e <;> subst hk <;> rfl
/-- What RightE says of a tree. -/
def isNil : XT → Bool
  | .nil => true
  | _ => false
def rightT : XT → Bool
  | .nil => false
  | .node _ _ (k, n, s) l r =>
    if k = 0 then decide (0 ≤ n) && isNil l && isNil r && decide (s = ⟨#[]⟩)
    else if k = 1 then !decide (s = ⟨#[]⟩) && isNil l && isNil r && decide (n = 0)
    else if k = 7 then rightT l && isNil r && decide (n = 0) && decide (s = ⟨#[]⟩)
    else if 2 ≤ k ∧ k ≤ 6 then rightT l && rightT r && decide (n = 0) && decide (s = ⟨#[]⟩)
    else false
def sizeX : XT → Nat
  | .nil => 0
  | .node _ _ _ l r => 1 + sizeX l + sizeX r
def shortX : XT → Prop
  | .nil => True
  | .node _ _ a l r => a.2.2.size ≤ 50 ∧ shortX l ∧ shortX r
theorem isNil_eq {T : XT} (h : isNil T = true) : T = .nil := by cases T with
  | nil => rfl
  | node => cases h
theorem wf_le {n : Int} (h : (Lit.int .i64 n).wf = true) : n ≤ 9223372036854775807 := by
  simp [Lit.wf, IntKind.min, IntKind.max, IntKind.signed, IntKind.bits] at h
  omega
theorem par_len (b : Bool) (t : List UInt8) : (parT b t).length ≤ t.length + 2 := by
  unfold parT
  split
  · simp
  · omega
theorem sign_len (k : Nat) : (signT k).length = 3 := by
  unfold signT
  repeat' split
  all_goals rfl
theorem dec_len (n : Nat) (h : n ≤ 9223372036854775807) : (Lib.decDigits n).length ≤ 21 := by
  have := Lib.itoa_length_le (n : Int) (by omega) (by omega)
  rw [Lib.itoa_nonneg] at this
  exact this
theorem dec_ne (n : Nat) : Lib.decDigits n ≠ [] := fun e => by
  rw [Lib.decDigits] at e
  split at e
  · cases e
  · simp at e
/-- A tree that RightE takes is an expression such as a text tells; its text is no longer than its nodes allow. -/
theorem right_ex {w : World} {S : Nat → Prop} : ∀ {T : XT}, TrV w S T → rightT T = true → shortX T → ∃ e, ExA w S e T.ptr ∧ WfX e ∧ (exT e).length ≤ 60 * sizeX T ∧ exT e ≠ []
  | .nil, _, h, _ => by cases h
  | .node b o (k, n, s) l r, ⟨h1, h2, h3, h4, h5, h6⟩, h, ⟨hs, hl, hr⟩ => by
    have hn := wf_le h3
    have hk := wf_le h2
    unfold rightT at h
    simp only at h h1 hs
    by_cases k0 : k = 0
    · subst k0
      rw [if_pos rfl] at h
      simp only [Bool.and_eq_true, decide_eq_true_eq] at h
      obtain ⟨⟨⟨hn0, el⟩, er⟩, es⟩ := h
      obtain rfl := isNil_eq el
      obtain rfl := isNil_eq er
      subst es
      obtain ⟨m, rfl⟩ := Int.eq_ofNat_of_zero_le hn0
      refine ⟨.num m, ⟨b, o, rfl, h1⟩, by show m ≤ _; simp only at hn; omega, ?_, dec_ne m⟩
      have := dec_len m (by simp only at hn; omega)
      show (Lib.decDigits m).length ≤ 60 * (1 + 0 + 0)
      omega
    rw [if_neg k0] at h
    by_cases k1 : k = 1
    · subst k1
      rw [if_pos rfl] at h
      simp only [Bool.and_eq_true, decide_eq_true_eq, Bool.not_eq_true', decide_eq_false_iff_not] at h
      obtain ⟨⟨⟨hsn, el⟩, er⟩, en⟩ := h
      obtain rfl := isNil_eq el
      obtain rfl := isNil_eq er
      subst en
      have hsz : s.data.toList.length = s.size := by rw [Array.length_toList]; rfl
      refine ⟨.var s.data.toList, ⟨b, o, rfl, h1⟩, by show _ ≤ _; omega, ?_, fun e => hsn (by rw [strB_eq s, show s.data.toList = [] from e]; rfl)⟩
      show s.data.toList.length ≤ 60 * (1 + 0 + 0)
      omega
    rw [if_neg k1] at h
    by_cases k7 : k = 7
    · subst k7
      rw [if_pos rfl] at h
      simp only [Bool.and_eq_true, decide_eq_true_eq] at h
      obtain ⟨⟨⟨hl1, er⟩, en⟩, es⟩ := h
      obtain rfl := isNil_eq er
      subst en es
      obtain ⟨x, hx1, hx2, hx3, -⟩ := right_ex h5 hl1 hl
      refine ⟨.neg x, ⟨b, o, _, rfl, h1, hx1⟩, hx2, ?_, fun e => by rw [exT] at e; cases e⟩
      have := par_len (decide (bindE x < 2)) (exT x)
      show ([45] ++ parT _ _).length ≤ 60 * (1 + _ + 0)
      rw [List.length_append]
      show 1 + _ ≤ _
      omega
    rw [if_neg k7] at h
    by_cases k2 : 2 ≤ k ∧ k ≤ 6
    · rw [if_pos k2] at h
      simp only [Bool.and_eq_true, decide_eq_true_eq] at h
      obtain ⟨⟨⟨hl1, hr1⟩, en⟩, es⟩ := h
      subst en es
      obtain ⟨x, hx1, hx2, hx3, -⟩ := right_ex h5 hl1 hl
      obtain ⟨y, hy1, hy2, hy3, -⟩ := right_ex h6 hr1 hr
      obtain ⟨m, rfl⟩ := Int.eq_ofNat_of_zero_le (by omega : 0 ≤ k)
      refine ⟨.bin m x y, ⟨b, o, _, _, rfl, h1, hx1, hy1⟩, ⟨by omega, by omega, hx2, hy2⟩, ?_, fun e => by
        have h9 := congrArg List.length e
        rw [exT, List.length_append, List.length_append, sign_len] at h9
        simp at h9⟩
      have e1 := par_len (decide (bindE x < bindK m)) (exT x)
      have e2 := par_len (decide (bindE y < bindK m + 1)) (exT y)
      have e3 := sign_len m
      show (parT _ _ ++ signT m ++ parT _ _).length ≤ 60 * (1 + _ + _)
      rw [List.length_append, List.length_append]
      omega
    · rw [if_neg k2] at h
      cases h
end Go.Proofs.YtojbfopmlgdjlaaDoor
