/- Part 5 of the walks (merged): Ps, Pt, Tr. -/
import Derived.Test.YtiiihpokpfhclaaDoorMs1
import Derived.Lib.ItoaNum
import Derived.Deep.Trees
import Derived.Lib.ItoaLen
/- The document's grammar: what a list of tokens comes to: expressions, conditions, statements, functions, globals; or the first token that does not fit. -/
namespace Go.Proofs.YtiiihpokpfhclaaDoor

inductive Ex where
  | num (n : Nat)
  | var (s : List UInt8)
  | neg (a : Ex)
  | bin (k : Nat) (a b : Ex)
inductive Cn where
  | cmp (k : Nat) (a b : Ex)
  | null (s : List UInt8)
  | not (c : Cn)
  | both (k : Nat) (p q : Cn)
/-- A statement: kind, X, Y, E, F, C, arguments, blocks, its number. -/
inductive Sm where
  | mk (kind : Nat) (x y : List UInt8) (e f : Option Ex) (c : Option Cn) (args : List Ex) (thn els : List Sm) (at_ : Nat)
structure Vr where
  name : List UInt8
  ptr : Bool
structure Fn7 where
  name : List UInt8
  params : List Vr
  locals : List Vr
  body : List Sm

/-- What reading comes to: something, and the tokens that are left; an error at the first of these tokens; no: too few steps were allowed. -/
inductive Rs (α : Type) where
  | ok (a : α) (r : List Tok)
  | er (r : List Tok) (n : Nat)
  | no
def Rs.bind {α β : Type} (x : Rs α) (f : α → List Tok → Rs β) : Rs β :=
  match x with
  | .ok a r => f a r
  | .er r n => .er r n
  | .no => .no

def txt : List Tok → List UInt8
  | [] => []
  | t :: _ => t.text
def nx (r : List Tok) (x : List UInt8) : Bool := txt r == x
def kws : List (List UInt8) := [[102, 110], [118, 97, 114], [112, 116, 114], [105, 102], [101, 108, 115, 101], [119, 104, 105, 108, 101], [114, 101, 116, 117, 114, 110], [97, 115, 115, 101, 114, 116], [110, 117, 108, 108], [99, 101, 108, 108], [97, 114, 114, 97, 121]]
def isKw (x : List UInt8) : Bool := kws.contains x
def isNm : List Tok → Bool
  | [] => false
  | t :: _ => t.kind == 0 && !isKw t.text
def isNum : List Tok → Bool
  | [] => false
  | t :: _ => t.kind == 1
def named (r : List Tok) (x : List UInt8) : Bool := isNm r && nx r.tail x
def want (x : List UInt8) (r : List Tok) : Rs Unit := if nx r x = true then .ok () r.tail else .er r 51
def nameP (r : List Tok) : Rs (List UInt8) := if isNm r = true then .ok (txt r) r.tail else .er r 51
def numP (r : List Tok) : Rs Nat := if isNum r = true then .ok (valL (txt r)) r.tail else .er r 51
def enterP (x : List UInt8) (d : Nat) (r : List Tok) : Rs Unit := if nx r x = true then (if d = 40 then .er r 52 else .ok () r.tail) else .er r 51

/-- Operands and the operators between them, from the left. -/
def chain {α : Type} (mk : Nat → α → α → α) (K : List UInt8 → Option Nat) (u : List Tok → Rs α) : Nat → α → List Tok → Rs α
  | 0, _, _ => .no
  | g + 1, a, r => match K (txt r) with
    | none => .ok a r
    | some k => (u r.tail).bind fun b r => chain mk K u g (mk k a b) r
def prodK (x : List UInt8) : Option Nat := if x = [42] then some 4 else if x = [47] then some 5 else if x = [37] then some 6 else none
def sumK (x : List UInt8) : Option Nat := if x = [43] then some 2 else if x = [45] then some 3 else none
def prodOf (u : List Tok → Rs Ex) (f : Nat) (r : List Tok) : Rs Ex := (u r).bind fun a r => chain .bin prodK u f a r
def sumOf (u : List Tok → Rs Ex) (f : Nat) (r : List Tok) : Rs Ex := (prodOf u f r).bind fun a r => chain .bin sumK (prodOf u f) f a r
def un : Nat → Nat → List Tok → Rs Ex
  | 0, _, _ => .no
  | f + 1, d, r =>
    if nx r [45] = true then (enterP [45] d r).bind fun _ r => (un f (d + 1) r).bind fun a r => .ok (.neg a) r
    else if nx r [40] = true then (enterP [40] d r).bind fun _ r => (sumOf (un f (d + 1)) f r).bind fun a r => (want [41] r).bind fun _ r => .ok a r
    else if isNum r = true then (numP r).bind fun n r => .ok (.num n) r
    else (nameP r).bind fun x r => .ok (.var x) r
def sumP (f d : Nat) (r : List Tok) : Rs Ex := sumOf (un f d) f r

def cmpK (x : List UInt8) : Option Nat := if x = [61, 61] then some 0 else if x = [33, 61] then some 1 else if x = [60] then some 2 else if x = [60, 61] then some 3 else if x = [62] then some 4 else if x = [62, 61] then some 5 else none
def andK (x : List UInt8) : Option Nat := if x = [38, 38] then some 6 else none
def orK (x : List UInt8) : Option Nat := if x = [124, 124] then some 7 else none
def isNull (r : List Tok) : Bool := (named r [61, 61] || named r [33, 61]) && nx r.tail.tail [110, 117, 108, 108]
def nullP (r : List Tok) : Rs Cn := (nameP r).bind fun x r =>
  if nx r [33, 61] = true then (want [110, 117, 108, 108] r.tail).bind fun _ r => .ok (.not (.null x)) r
  else (want [61, 61] r).bind fun _ r => (want [110, 117, 108, 108] r).bind fun _ r => .ok (.null x) r
def cmpP (f d : Nat) (r : List Tok) : Rs Cn := (sumP f d r).bind fun a r => match cmpK (txt r) with
  | none => .er r 51
  | some k => (sumP f d r.tail).bind fun b r => .ok (.cmp k a b) r
def andOf (u : List Tok → Rs Cn) (f : Nat) (r : List Tok) : Rs Cn := (u r).bind fun a r => chain .both andK u f a r
def condOf (u : List Tok → Rs Cn) (f : Nat) (r : List Tok) : Rs Cn := (andOf u f r).bind fun a r => chain .both orK (andOf u f) f a r
def notP : Nat → Nat → List Tok → Rs Cn
  | 0, _, _ => .no
  | f + 1, d, r =>
    if nx r [33] = true then (enterP [33] d r).bind fun _ r => (notP f (d + 1) r).bind fun c r => .ok (.not c) r
    else if nx r [40] = true then (enterP [40] d r).bind fun _ r => (condOf (notP f (d + 1)) f r).bind fun c r => (want [41] r).bind fun _ r => .ok c r
    else if isNull r = true then nullP r
    else cmpP f d r
def condP (f d : Nat) (r : List Tok) : Rs Cn := condOf (notP f d) f r
def testP (f d : Nat) (r : List Tok) : Rs Cn := (want [40] r).bind fun _ r => (condP f d r).bind fun c r => (want [41] r).bind fun _ r => .ok c r
def indexP (f d : Nat) (r : List Tok) : Rs Ex := (want [91] r).bind fun _ r => (sumP f d r).bind fun e r => (want [93] r).bind fun _ r => .ok e r

/-- More of a list, behind commas; how many there are already is told. -/
def many {α : Type} (u : Nat → List Tok → Rs α) : Nat → List α → List Tok → Rs (List α)
  | 0, _, _ => .no
  | g + 1, l, r => if nx r [44] = true then (u l.length r.tail).bind fun a r => many u g (l ++ [a]) r else .ok l r
def argsP (f d : Nat) (r : List Tok) : Rs (List Ex) := (want [40] r).bind fun _ r =>
  if nx r [41] = true then .ok [] r.tail
  else (sumP f d r).bind fun a r => (many (fun _ => sumP f d) f [a] r).bind fun l r => (want [41] r).bind fun _ r => .ok l r

def storeP (f d a : Nat) (r : List Tok) : Rs Sm := (want [42] r).bind fun _ r => (nameP r).bind fun x r => (want [61] r).bind fun _ r => (sumP f d r).bind fun e r => (want [59] r).bind fun _ r => .ok (.mk 5 x [] (some e) none none [] [] [] a) r
def returnP (f d a : Nat) (r : List Tok) : Rs Sm := (want [114, 101, 116, 117, 114, 110] r).bind fun _ r => (sumP f d r).bind fun e r => (want [59] r).bind fun _ r => .ok (.mk 9 [] [] (some e) none none [] [] [] a) r
def assertP (f d a : Nat) (r : List Tok) : Rs Sm := (want [97, 115, 115, 101, 114, 116] r).bind fun _ r => (testP f d r).bind fun c r => (want [59] r).bind fun _ r => .ok (.mk 12 [] [] none none (some c) [] [] [] a) r
def putP (f d a : Nat) (r : List Tok) : Rs Sm := (nameP r).bind fun y r => (indexP f d r).bind fun e r => (want [61] r).bind fun _ r => (sumP f d r).bind fun e2 r => (want [59] r).bind fun _ r => .ok (.mk 7 [] y (some e) (some e2) none [] [] [] a) r
def callP (f d : Nat) (x : List UInt8) (a : Nat) (r : List Tok) : Rs Sm := (nameP r).bind fun y r => (argsP f d r).bind fun l r => .ok (.mk 8 x y none none none l [] [] a) r
def callAloneP (f d a : Nat) (r : List Tok) : Rs Sm := (callP f d [] a r).bind fun s r => (want [59] r).bind fun _ r => .ok s r
def valueP (f d : Nat) (x : List UInt8) (a : Nat) (r : List Tok) : Rs Sm :=
  if nx r [110, 117, 108, 108] = true then .ok (.mk 3 x [] none none none [] [] [] a) r.tail
  else if nx r [38] = true then (nameP r.tail).bind fun y r => .ok (.mk 1 x y none none none [] [] [] a) r
  else if nx r [42] = true then (nameP r.tail).bind fun y r => .ok (.mk 4 x y none none none [] [] [] a) r
  else if named r [91] = true then (nameP r).bind fun y r => (indexP f d r).bind fun e r => .ok (.mk 6 x y (some e) none none [] [] [] a) r
  else if named r [40] = true then callP f d x a r
  else (sumP f d r).bind fun e r => .ok (.mk 0 x [] (some e) none none [] [] [] a) r
def assignP (f d a : Nat) (r : List Tok) : Rs Sm := (nameP r).bind fun x r => (want [61] r).bind fun _ r => (valueP f d x a r).bind fun s r => (want [59] r).bind fun _ r => .ok s r

/-- Statements up to the }: with each its number; how many there are then. -/
def stmsOf (s : Nat → List Tok → Rs (Sm × Nat)) : Nat → List Sm → Nat → List Tok → Rs (List Sm × Nat)
  | 0, _, _, _ => .no
  | g + 1, l, n, r => if nx r [125] = true then .ok (l, n) r.tail else (s n r).bind fun x r => stmsOf s g (l ++ [x.1]) x.2 r
def blockOf (s : Nat → List Tok → Rs (Sm × Nat)) (f d n : Nat) (r : List Tok) : Rs (List Sm × Nat) := (enterP [123] d r).bind fun _ r => stmsOf s f [] n r
def kindS (r : List Tok) : Option Nat :=
  if nx r [42] = true then some 0 else if nx r [114, 101, 116, 117, 114, 110] = true then some 1 else if nx r [97, 115, 115, 101, 114, 116] = true then some 2
  else if nx r [105, 102] = true then some 3 else if nx r [119, 104, 105, 108, 101] = true then some 4
  else if isNm r = true then (if nx r.tail [91] = true then some 5 else if nx r.tail [40] = true then some 6 else some 7) else none
def withN {α : Type} (n : Nat) (x : Rs α) : Rs (α × Nat) := x.bind fun a r => .ok (a, n) r
def ifP (s : Nat → List Tok → Rs (Sm × Nat)) (f d a n : Nat) (r : List Tok) : Rs (Sm × Nat) := (want [105, 102] r).bind fun _ r => (testP f d r).bind fun c r => (blockOf s f d n r).bind fun t r =>
  if nx r [101, 108, 115, 101] = true then (blockOf s f d t.2 r.tail).bind fun e r => .ok (.mk 10 [] [] none none (some c) [] t.1 e.1 a, e.2) r
  else .ok (.mk 10 [] [] none none (some c) [] t.1 [] a, t.2) r
def whileP (s : Nat → List Tok → Rs (Sm × Nat)) (f d a n : Nat) (r : List Tok) : Rs (Sm × Nat) := (want [119, 104, 105, 108, 101] r).bind fun _ r => (testP f d r).bind fun c r => (blockOf s f d n r).bind fun t r =>
  .ok (.mk 11 [] [] none none (some c) [] t.1 [] a, t.2) r
def bodyP (s : Nat → List Tok → Rs (Sm × Nat)) (f d a n : Nat) : Nat → List Tok → Rs (Sm × Nat)
  | 0, r => withN n (storeP f d a r)
  | 1, r => withN n (returnP f d a r)
  | 2, r => withN n (assertP f d a r)
  | 3, r => ifP s f d a n r
  | 4, r => whileP s f d a n r
  | 5, r => withN n (putP f d a r)
  | 6, r => withN n (callAloneP f d a r)
  | _, r => withN n (assignP f d a r)
def stm : Nat → Nat → Nat → List Tok → Rs (Sm × Nat)
  | 0, _, _, _ => .no
  | f + 1, d, n, r => match kindS r with
    | none => .er r 51
    | some k => if n = 200 then .er r 53 else bodyP (stm f (d + 1)) f d n (n + 1) k r

def declP (n most : Nat) (r : List Tok) : Rs (List UInt8) := (nameP r).bind fun x r' => if n = most then .er r 53 else .ok x r'
def paramP (n : Nat) (r : List Tok) : Rs Vr := (declP n 6 (if nx r [42] = true then r.tail else r)).bind fun x r' => .ok ⟨x, nx r [42]⟩ r'
def paramsP (f : Nat) (r : List Tok) : Rs (List Vr) := (want [40] r).bind fun _ r =>
  if nx r [41] = true then .ok [] r.tail
  else (paramP 0 r).bind fun a r => (many paramP f [a] r).bind fun l r => (want [41] r).bind fun _ r => .ok l r
def localsP : Nat → List Vr → List Tok → Rs (List Vr)
  | 0, _, _ => .no
  | g + 1, l, r => if nx r [118, 97, 114] = true ∨ nx r [112, 116, 114] = true then (declP l.length 20 r.tail).bind fun x r' => (want [59] r').bind fun _ r' => localsP g (l ++ [⟨x, nx r [112, 116, 114]⟩]) r'
    else .ok l r
def funcP (f : Nat) (r : List Tok) : Rs Fn7 := (want [102, 110] r).bind fun _ r => (nameP r).bind fun x r => (paramsP f r).bind fun ps r => (enterP [123] 0 r).bind fun _ r =>
  (localsP f [] r).bind fun ls r => (stmsOf (stm f 1) f [] 0 r).bind fun b r => .ok ⟨x, ps, ls, b.1⟩ r

structure Gl where
  cells : List (List UInt8)
  arrays : List (List UInt8 × Nat)
def boundsP (r : List Tok) : Rs Nat := (want [91] r).bind fun _ r => (numP r).bind fun n r' => if n = 0 then .er r 51 else if 1048576 < n then .er r 53 else (want [93] r').bind fun _ r' => .ok n r'
def globL : Nat → Gl → List Tok → Rs Gl
  | 0, _, _ => .no
  | f + 1, g, [] => .ok g []
  | f + 1, g, t :: r =>
    if nx (t :: r) [99, 101, 108, 108] = true then (declP (g.cells.length + g.arrays.length) 20 r).bind fun x r => (want [59] r).bind fun _ r => globL f ⟨g.cells ++ [x], g.arrays⟩ r
    else (want [97, 114, 114, 97, 121] (t :: r)).bind fun _ r => (declP (g.cells.length + g.arrays.length) 20 r).bind fun x r => (boundsP r).bind fun n r => (want [59] r).bind fun _ r => globL f ⟨g.cells, g.arrays ++ [(x, n)]⟩ r
def globP (f : Nat) (r : List Tok) : Rs Gl := globL f ⟨[], []⟩ r

def atOf (len : Nat) : List Tok → Nat
  | [] => len
  | t :: _ => t.at_
/-- The whole text: it must end there. -/
def wholeP {α : Type} (len : Nat) : Rs α → Option (Except (Nat × Nat) α)
  | .ok a [] => some (.ok a)
  | .ok _ r => some (.error (atOf len r, 51))
  | .er r n => some (.error (atOf len r, n))
  | .no => none
def textP {α : Type} (p : List Tok → Rs α) (s : List UInt8) : Option (Except (Nat × Nat) α) :=
  match lexT s with
  | .error x => some (.error x)
  | .ok ts => wholeP s.length (p ts)
end Go.Proofs.YtiiihpokpfhclaaDoor
/- The document's texts of expressions and conditions. -/
namespace Go.Proofs.YtiiihpokpfhclaaDoor

/-- The sign between the operands of an expression of kind k. -/
def signT (k : Nat) : List UInt8 := if k = 2 then [32, 43, 32] else if k = 3 then [32, 45, 32] else if k = 4 then [32, 42, 32] else if k = 5 then [32, 47, 32] else [32, 37, 32]
def bindK (k : Nat) : Nat := if k = 2 ∨ k = 3 then 0 else if k = 4 ∨ k = 5 ∨ k = 6 then 1 else 2
def bindE : Ex → Nat
  | .bin k _ _ => bindK k
  | _ => 2
def parT (b : Bool) (t : List UInt8) : List UInt8 := if b = true then [40] ++ t ++ [41] else t
def exT : Ex → List UInt8
  | .num n => Lib.decDigits n
  | .var s => s
  | .neg a => [45] ++ parT (decide (bindE a < 2)) (exT a)
  | .bin k a b => parT (decide (bindE a < bindK k)) (exT a) ++ signT k ++ parT (decide (bindE b < bindK k + 1)) (exT b)
/-- Such as a text tells. -/
def WfX : Ex → Prop
  | .num n => n ≤ 9223372036854775807
  | .var s => s.length ≤ 1000000
  | .neg a => WfX a
  | .bin k a b => 2 ≤ k ∧ k ≤ 6 ∧ WfX a ∧ WfX b
def cmpT (k : Nat) : List UInt8 := if k = 0 then [32, 61, 61, 32] else if k = 1 then [32, 33, 61, 32] else if k = 2 then [32, 60, 32] else if k = 3 then [32, 60, 61, 32] else if k = 4 then [32, 62, 32] else [32, 62, 61, 32]
def kindC : Cn → Nat
  | .cmp k _ _ => k
  | .null _ => 9
  | .not _ => 8
  | .both k _ _ => k
def cnT : Cn → List UInt8
  | .cmp k a b => exT a ++ cmpT k ++ exT b
  | .null s => s ++ [32, 61, 61, 32, 110, 117, 108, 108]
  | .not (.null s) => s ++ [32, 33, 61, 32, 110, 117, 108, 108]
  | .not c => [33] ++ parT (decide (kindC c ≠ 8)) (cnT c)
  | .both k p q => if k = 6 then parT (decide (kindC p = 7)) (cnT p) ++ [32, 38, 38, 32] ++ parT (decide (kindC q = 7 ∨ kindC q = 6)) (cnT q) else cnT p ++ [32, 124, 124, 32] ++ parT (decide (kindC q = 7)) (cnT q)
def WfC : Cn → Prop
  | .cmp k a b => k ≤ 5 ∧ WfX a ∧ WfX b
  | .null s => s.length ≤ 1000000
  | .not c => WfC c
  | .both k p q => (k = 6 ∨ k = 7) ∧ WfC p ∧ WfC q
end Go.Proofs.YtiiihpokpfhclaaDoor
/- Trees of expressions: those that came in, those that a text tells; what is read of them. -/
namespace Go.Proofs.YtiiihpokpfhclaaDoor
open Go Go.RowKit Go.Deep Go.ChangeShapes Go.WideShapes

abbrev XT := BT (Int × Int × ByteArray)
/-- A node's five cells. -/
def NdV (w : World) (S : Nat → Prop) (b o : Nat) (k n : Int) (s : ByteArray) (va vb : Value) : Prop :=
  S b ∧ w.cell? ⟨b, o, none⟩ = some (.int .i64 k) ∧ w.cell? ⟨b, o + 1, none⟩ = some (.int .i64 n) ∧ w.cell? ⟨b, o + 2, none⟩ = some (.string s) ∧ w.cell? ⟨b, o + 3, none⟩ = some va ∧ w.cell? ⟨b, o + 4, none⟩ = some vb
theorem NdV.upd {w w' : World} {S F : Nat → Prop} {b o : Nat} {k n : Int} {s : ByteArray} {va vb : Value} (h : NdV w S b o k n s va vb) (hu : Upd F w w') (hS : ∀ b, S b → ¬ F b) : NdV w' S b o k n s va vb :=
  ⟨h.1, hu.cell h.2.1 (hS _ h.1), hu.cell h.2.2.1 (hS _ h.1), hu.cell h.2.2.2.1 (hS _ h.1), hu.cell h.2.2.2.2.1 (hS _ h.1), hu.cell h.2.2.2.2.2 (hS _ h.1)⟩
def TrV (w : World) (S : Nat → Prop) : XT → Prop
  | .nil => True
  | .node b o a l r => NdV w S b o a.1 a.2.1 a.2.2 l.ptr r.ptr ∧ (Lit.int .i64 a.1).wf = true ∧ (Lit.int .i64 a.2.1).wf = true ∧ a.2.2.size ≤ maxLen ∧ TrV w S l ∧ TrV w S r
theorem TrV.upd {w w' : World} {S F : Nat → Prop} (hu : Upd F w w') (hS : ∀ b, S b → ¬ F b) : ∀ {T : XT}, TrV w S T → TrV w' S T
  | .nil, _ => trivial
  | .node _ _ _ _ _, ⟨h1, h2, h3, h4, h5, h6⟩ => ⟨h1.upd hu hS, h2, h3, h4, TrV.upd hu hS h5, TrV.upd hu hS h6⟩
theorem tr_cI : Tryd.prog.cellsOf 3 = 1 := by kernel_rfl
theorem tr_cL : Tryd.prog.cellsOf 2 = 1 := by kernel_rfl
theorem tr_cS : Tryd.prog.cellsOf 9 = 1 := by kernel_rfl
theorem tr_cE : Tryd.prog.cellsOf 35 = 1 := by kernel_rfl
section
variable {H : Type} {enc : TypeId × Value → H} {w : World} {base : Nat} {sp : Nat → Bool} {hd : Bool}
set_option maxRecDepth 100000 in
theorem open_tr : ∀ (fuel : Nat) (cs : List Value) (x : DataW H × List MemPlace), DataW.trod enc Tryd.prog w base sp hd fuel 35 cs = some x → ∃ T : XT, cs = [T.ptr] ∧ TrV w (· < w.heap.size) T := by
  intro fuel
  induction fuel using Nat.strongRecOn with
  | _ fuel ih =>
    intro cs x h
    rcases DataW.trod_pointer Tryd.underlying35 h with ⟨rfl, rfl⟩ | ⟨a, cs', y, m, rfl, rfl, rfl, hcells, hy⟩
    · exact ⟨.nil, rfl, trivial⟩
    · obtain ⟨hb, _, hcell⟩ := World.cells?_some hcells
      obtain ⟨xs, m', rfl, -, hl, hlen, hf⟩ := DataW.trod_struct Tryd.underlying46 hy
      have hC : Tryd.prog.cellsOf 46 = 5 := by kernel_rfl
      rw [hC] at hl hcell
      match cs', hl with
      | [v0, v1, v2, v3, v4], _ =>
        match xs, hlen with
        | [y0, y1, y2, y3, y4], _ =>
          have g0 := hf 0 _ rfl
          have g1 := hf 1 _ rfl
          have g2 := hf 2 _ rfl
          have g3 := hf 3 _ rfl
          have g4 := hf 4 _ rfl
          simp only [List.getElem_toArray, List.getElem_cons_zero, List.getElem_cons_succ, tr_cI, tr_cL, tr_cS, tr_cE] at g0 g1 g2 g3 g4
          obtain ⟨k, e0, -, wk⟩ := DataW.trod_int Tryd.underlying3 g0
          obtain ⟨n, e1, -, wn⟩ := DataW.trod_int Tryd.underlying2 g1
          obtain ⟨s, e2, -, ws⟩ := DataW.trod_string Tryd.underlying9 g2
          obtain ⟨Tl, e3, hl3⟩ := ih m' (by omega) _ _ g3
          obtain ⟨Tr, e4, hl4⟩ := ih m' (by omega) _ _ g4
          simp at e0 e1 e2 e3 e4
          subst e0 e1 e2 e3 e4
          obtain ⟨b, off, spot⟩ := a
          have h0 := hcell 0 (by omega)
          have hspot : spot = none := by simpa [Addr.add] using World.cell?_spot h0
          subst hspot
          have hlt : b < w.heap.size := World.block_lt_of_cell? _ _ h0
          have hc : ∀ i, i < 5 → w.cell? ⟨b, off + i, none⟩ = [Value.int .i64 k, .int .i64 n, .string s, Tl.ptr, Tr.ptr][i]? := fun i hi => by
            have := hcell i hi
            rwa [add_plain] at this
          exact ⟨.node b off (k, n, s) Tl Tr, rfl, ⟨hlt, hc 0 (by omega), hc 1 (by omega), hc 2 (by omega), hc 3 (by omega), hc 4 (by omega)⟩, wk, wn, ws, hl3, hl4⟩
end
/-- An expression in memory, in blocks of S, each node anywhere in its block. -/
def ExA (w : World) (S : Nat → Prop) : Ex → Value → Prop
  | .num n, v => ∃ b o, v = .pointer (some ⟨b, o, none⟩) ∧ NdV w S b o 0 n ⟨#[]⟩ (.pointer none) (.pointer none)
  | .var s, v => ∃ b o, v = .pointer (some ⟨b, o, none⟩) ∧ NdV w S b o 1 0 (strB s) (.pointer none) (.pointer none)
  | .neg a, v => ∃ b o va, v = .pointer (some ⟨b, o, none⟩) ∧ NdV w S b o 7 0 ⟨#[]⟩ va (.pointer none) ∧ ExA w S a va
  | .bin k x y, v => ∃ b o va vb, v = .pointer (some ⟨b, o, none⟩) ∧ NdV w S b o k 0 ⟨#[]⟩ va vb ∧ ExA w S x va ∧ ExA w S y vb
theorem ExA.upd {w w' : World} {S F : Nat → Prop} (hu : Upd F w w') (hS : ∀ b, S b → ¬ F b) : ∀ {e : Ex} {v : Value}, ExA w S e v → ExA w' S e v
  | .num _, _, ⟨b, o, h1, h2⟩ => ⟨b, o, h1, h2.upd hu hS⟩
  | .var _, _, ⟨b, o, h1, h2⟩ => ⟨b, o, h1, h2.upd hu hS⟩
  | .neg _, _, ⟨b, o, va, h1, h2, h3⟩ => ⟨b, o, va, h1, h2.upd hu hS, ExA.upd hu hS h3⟩
  | .bin _ _ _, _, ⟨b, o, va, vb, h1, h2, h3, h4⟩ => ⟨b, o, va, vb, h1, h2.upd hu hS, ExA.upd hu hS h3, ExA.upd hu hS h4⟩
theorem ExA.mono {w : World} {S S' : Nat → Prop} (hS : ∀ b, S b → S' b) : ∀ {e : Ex} {v : Value}, ExA w S e v → ExA w S' e v
  | .num _, _, ⟨b, o, h1, h2⟩ => ⟨b, o, h1, hS _ h2.1, h2.2⟩
  | .var _, _, ⟨b, o, h1, h2⟩ => ⟨b, o, h1, hS _ h2.1, h2.2⟩
  | .neg _, _, ⟨b, o, va, h1, h2, h3⟩ => ⟨b, o, va, h1, ⟨hS _ h2.1, h2.2⟩, ExA.mono hS h3⟩
  | .bin _ _ _, _, ⟨b, o, va, vb, h1, h2, h3, h4⟩ => ⟨b, o, va, vb, h1, ⟨hS _ h2.1, h2.2⟩, ExA.mono hS h3, ExA.mono hS h4⟩
theorem ExA.ptr {w : World} {S : Nat → Prop} : ∀ {e : Ex} {v : Value}, ExA w S e v → ∃ b o, v = .pointer (some ⟨b, o, none⟩)
  | .num _, _, ⟨b, o, h, _⟩ => ⟨b, o, h⟩
  | .var _, _, ⟨b, o, h, _⟩ => ⟨b, o, h⟩
  | .neg _, _, ⟨b, o, _, h, _⟩ => ⟨b, o, h⟩
  | .bin _ _ _, _, ⟨b, o, _, _, h, _⟩ => ⟨b, o, h⟩

theorem ExA.low {w w' : World} {B : Nat} {e : Ex} {v : Value} (h : ExA w (· < B) e v) (hb : Below B w w') : ExA w' (· < B) e v :=
  h.upd (F := (B ≤ ·)) ⟨hb.os, hb.tape, hb.output, hb.size, fun k _ hn => hb.block k (Nat.lt_of_not_le hn)⟩ fun _ h1 h2 => Nat.lt_irrefl _ (Nat.lt_of_lt_of_le h1 h2)
def kindE : Ex → Nat
  | .num _ => 0
  | .var _ => 1
  | .neg _ => 7
  | .bin k _ _ => k
theorem ExA.kind {w : World} {S : Nat → Prop} : ∀ {e : Ex} {v : Value}, ExA w S e v → ∃ (b o k : Nat), v = .pointer (some ⟨b, o, none⟩) ∧ w.cell? ⟨b, o, none⟩ = some (.int .i64 k) ∧ S b ∧ k = kindE e
  | .num _, _, ⟨b, o, h, h2⟩ => ⟨b, o, 0, h, h2.2.1, h2.1, rfl⟩
  | .var _, _, ⟨b, o, h, h2⟩ => ⟨b, o, 1, h, h2.2.1, h2.1, rfl⟩
  | .neg _, _, ⟨b, o, _, h, h2, _⟩ => ⟨b, o, 7, h, h2.2.1, h2.1, rfl⟩
  | .bin k _ _, _, ⟨b, o, _, _, h, h2, _, _⟩ => ⟨b, o, k, h, h2.2.1, h2.1, rfl⟩
theorem kind_bind {e : Ex} {k : Nat} (hk : k = kindE e) : bindE e = bindK k := by
  cases e <;> subst hk <;> rfl
/-- What RightE says of a tree. -/
def isNil : XT → Bool
  | .nil => true
  | _ => false
def rightT : XT → Bool
  | .nil => false
  | .node _ _ (k, n, s) l r =>
    if k = 0 then decide (0 ≤ n) && isNil l && isNil r && decide (s = ⟨#[]⟩)
    else if k = 1 then !decide (s = ⟨#[]⟩) && isNil l && isNil r && decide (n = 0)
    else if k = 7 then rightT l && isNil r && decide (n = 0) && decide (s = ⟨#[]⟩)
    else if 2 ≤ k ∧ k ≤ 6 then rightT l && rightT r && decide (n = 0) && decide (s = ⟨#[]⟩)
    else false
def sizeX : XT → Nat
  | .nil => 0
  | .node _ _ _ l r => 1 + sizeX l + sizeX r
def shortX : XT → Prop
  | .nil => True
  | .node _ _ a l r => a.2.2.size ≤ 50 ∧ shortX l ∧ shortX r
theorem isNil_eq {T : XT} (h : isNil T = true) : T = .nil := by cases T with
  | nil => rfl
  | node => cases h
theorem wf_le {n : Int} (h : (Lit.int .i64 n).wf = true) : n ≤ 9223372036854775807 := by
  simp [Lit.wf, IntKind.min, IntKind.max, IntKind.signed, IntKind.bits] at h
  omega
theorem par_len (b : Bool) (t : List UInt8) : (parT b t).length ≤ t.length + 2 := by
  unfold parT
  split
  · simp
  · omega
theorem sign_len (k : Nat) : (signT k).length = 3 := by
  unfold signT
  repeat' split
  all_goals rfl
theorem dec_len (n : Nat) (h : n ≤ 9223372036854775807) : (Lib.decDigits n).length ≤ 21 := by
  have := Lib.itoa_length_le (n : Int) (by omega) (by omega)
  rw [Lib.itoa_nonneg] at this
  exact this
theorem dec_ne (n : Nat) : Lib.decDigits n ≠ [] := fun e => by
  rw [Lib.decDigits] at e
  split at e
  · cases e
  · simp at e
/-- A tree that RightE takes is an expression such as a text tells; its text is no longer than its nodes allow. -/
theorem right_ex {w : World} {S : Nat → Prop} : ∀ {T : XT}, TrV w S T → rightT T = true → shortX T → ∃ e, ExA w S e T.ptr ∧ WfX e ∧ (exT e).length ≤ 60 * sizeX T ∧ exT e ≠ []
  | .nil, _, h, _ => by cases h
  | .node b o (k, n, s) l r, ⟨h1, h2, h3, h4, h5, h6⟩, h, ⟨hs, hl, hr⟩ => by
    have hn := wf_le h3
    have hk := wf_le h2
    unfold rightT at h
    simp only at h h1 hs
    by_cases k0 : k = 0
    · subst k0
      rw [if_pos rfl] at h
      simp only [Bool.and_eq_true, decide_eq_true_eq] at h
      obtain ⟨⟨⟨hn0, el⟩, er⟩, es⟩ := h
      obtain rfl := isNil_eq el
      obtain rfl := isNil_eq er
      subst es
      obtain ⟨m, rfl⟩ := Int.eq_ofNat_of_zero_le hn0
      refine ⟨.num m, ⟨b, o, rfl, h1⟩, by show m ≤ _; simp only at hn; omega, ?_, dec_ne m⟩
      have := dec_len m (by simp only at hn; omega)
      show (Lib.decDigits m).length ≤ 60 * (1 + 0 + 0)
      omega
    rw [if_neg k0] at h
    by_cases k1 : k = 1
    · subst k1
      rw [if_pos rfl] at h
      simp only [Bool.and_eq_true, decide_eq_true_eq, Bool.not_eq_true', decide_eq_false_iff_not] at h
      obtain ⟨⟨⟨hsn, el⟩, er⟩, en⟩ := h
      obtain rfl := isNil_eq el
      obtain rfl := isNil_eq er
      subst en
      have hsz : s.data.toList.length = s.size := by rw [Array.length_toList]; rfl
      refine ⟨.var s.data.toList, ⟨b, o, rfl, h1⟩, by show _ ≤ _; omega, ?_, fun e => hsn (by rw [strB_eq s, show s.data.toList = [] from e]; rfl)⟩
      show s.data.toList.length ≤ 60 * (1 + 0 + 0)
      omega
    rw [if_neg k1] at h
    by_cases k7 : k = 7
    · subst k7
      rw [if_pos rfl] at h
      simp only [Bool.and_eq_true, decide_eq_true_eq] at h
      obtain ⟨⟨⟨hl1, er⟩, en⟩, es⟩ := h
      obtain rfl := isNil_eq er
      subst en es
      obtain ⟨x, hx1, hx2, hx3, -⟩ := right_ex h5 hl1 hl
      refine ⟨.neg x, ⟨b, o, _, rfl, h1, hx1⟩, hx2, ?_, fun e => by rw [exT] at e; cases e⟩
      have := par_len (decide (bindE x < 2)) (exT x)
      show ([45] ++ parT _ _).length ≤ 60 * (1 + _ + 0)
      rw [List.length_append]
      show 1 + _ ≤ _
      omega
    rw [if_neg k7] at h
    by_cases k2 : 2 ≤ k ∧ k ≤ 6
    · rw [if_pos k2] at h
      simp only [Bool.and_eq_true, decide_eq_true_eq] at h
      obtain ⟨⟨⟨hl1, hr1⟩, en⟩, es⟩ := h
      subst en es
      obtain ⟨x, hx1, hx2, hx3, -⟩ := right_ex h5 hl1 hl
      obtain ⟨y, hy1, hy2, hy3, -⟩ := right_ex h6 hr1 hr
      obtain ⟨m, rfl⟩ := Int.eq_ofNat_of_zero_le (by omega : 0 ≤ k)
      refine ⟨.bin m x y, ⟨b, o, _, _, rfl, h1, hx1, hy1⟩, ⟨by omega, by omega, hx2, hy2⟩, ?_, fun e => by
        have h9 := congrArg List.length e
        rw [exT, List.length_append, List.length_append, sign_len] at h9
        simp at h9⟩
      have e1 := par_len (decide (bindE x < bindK m)) (exT x)
      have e2 := par_len (decide (bindE y < bindK m + 1)) (exT y)
      have e3 := sign_len m
      show (parT _ _ ++ signT m ++ parT _ _).length ≤ 60 * (1 + _ + _)
      rw [List.length_append, List.length_append]
      omega
    · rw [if_neg k2] at h
      cases h
end Go.Proofs.YtiiihpokpfhclaaDoor
