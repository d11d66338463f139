/- The document's grammar: what a list of tokens comes to: expressions, conditions, statements, functions, globals; or the first token that does not fit. -/
import Derived.Test.YtojbfopmlgdjlaaDoorLx
namespace Go.Proofs.YtojbfopmlgdjlaaDoor

inductive Ex where
  | num (n : Nat)
  | var (s : List UInt8)
  | neg (a : Ex)
  | bin (k : Nat) (a b : Ex)
inductive Cn where
  | cmp (k : Nat) (a b : Ex)
  | null (s : List UInt8)
  | not (c : Cn)
  | both (k : Nat) (p q : Cn)
/-- A statement: kind, X, Y, E, F, C, arguments, blocks, its number. -/
inductive Sm where
  | mk (kind : Nat) (x y : List UInt8) (e f : Option Ex) (c : Option Cn) (args : List Ex) (thn els : List Sm) (at_ : Nat)
structure Vr where
  name : List UInt8
  ptr : Bool
structure Fn7 where
  name : List UInt8
  params : List Vr
  locals : List Vr
  body : List Sm

/-- What reading comes to: something, and the tokens that are left; an error at the first of these tokens; no: too few steps were allowed. -/
inductive Rs (α : Type) where
  | ok (a : α) (r : List Tok)
  | er (r : List Tok) (n : Nat)
  | no
def Rs.bind {α β : Type} (x : Rs α) (f : α → List Tok → Rs β) : Rs β :=
  match x with
  | .ok a r => f a r
  | .er r n => .er r n
  | .no => .no

def txt : List Tok → List UInt8
  | [] => []
  | t :: _ => t.text
def nx (r : List Tok) (x : List UInt8) : Bool := txt r == x
def kws : List (List UInt8) := [[102, 110], [118, 97, 114], [112, 116, 114], [105, 102], [101, 108, 115, 101], [119, 104, 105, 108, 101], [114, 101, 116, 117, 114, 110], [97, 115, 115, 101, 114, 116], [110, 117, 108, 108], [99, 101, 108, 108], [97, 114, 114, 97, 121]]
def isKw (x : List UInt8) : Bool := kws.contains x
def isNm : List Tok → Bool
  | [] => false
  | t :: _ => t.kind == 0 && !isKw t.text
def isNum : List Tok → Bool
  | [] => false
  | t :: _ => t.kind == 1
def named (r : List Tok) (x : List UInt8) : Bool := isNm r && nx r.tail x
def want (x : List UInt8) (r : List Tok) : Rs Unit := if nx r x = true then .ok () r.tail else .er r 51
def nameP (r : List Tok) : Rs (List UInt8) := if isNm r = true then .ok (txt r) r.tail else .er r 51
def numP (r : List Tok) : Rs Nat := if isNum r = true then .ok (valL (txt r)) r.tail else .er r 51
def enterP (x : List UInt8) (d : Nat) (r : List Tok) : Rs Unit := if nx r x = true then (if d = 40 then .er r 52 else .ok () r.tail) else .er r 51

/-- Operands and the operators between them, from the left. -/
def chain {α : Type} (mk : Nat → α → α → α) (K : List UInt8 → Option Nat) (u : List Tok → Rs α) : Nat → α → List Tok → Rs α
  | 0, _, _ => .no
  | g + 1, a, r => match K (txt r) with
    | none => .ok a r
    | some k => (u r.tail).bind fun b r => chain mk K u g (mk k a b) r
def prodK (x : List UInt8) : Option Nat := if x = [42] then some 4 else if x = [47] then some 5 else if x = [37] then some 6 else none
def sumK (x : List UInt8) : Option Nat := if x = [43] then some 2 else if x = [45] then some 3 else none
def prodOf (u : List Tok → Rs Ex) (f : Nat) (r : List Tok) : Rs Ex := (u r).bind fun a r => chain .bin prodK u f a r
def sumOf (u : List Tok → Rs Ex) (f : Nat) (r : List Tok) : Rs Ex := (prodOf u f r).bind fun a r => chain .bin sumK (prodOf u f) f a r
def un : Nat → Nat → List Tok → Rs Ex
  | 0, _, _ => .no
  | f + 1, d, r =>
    if nx r [45] = true then (enterP [45] d r).bind fun _ r => (un f (d + 1) r).bind fun a r => .ok (.neg a) r
    else if nx r [40] = true then (enterP [40] d r).bind fun _ r => (sumOf (un f (d + 1)) f r).bind fun a r => (want [41] r).bind fun _ r => .ok a r
    else if isNum r = true then (numP r).bind fun n r => .ok (.num n) r
    else (nameP r).bind fun x r => .ok (.var x) r
def sumP (f d : Nat) (r : List Tok) : Rs Ex := sumOf (un f d) f r

def cmpK (x : List UInt8) : Option Nat := if x = [61, 61] then some 0 else if x = [33, 61] then some 1 else if x = [60] then some 2 else if x = [60, 61] then some 3 else if x = [62] then some 4 else if x = [62, 61] then some 5 else none
def andK (x : List UInt8) : Option Nat := if x = [38, 38] then some 6 else none
def orK (x : List UInt8) : Option Nat := if x = [124, 124] then some 7 else none
def isNull (r : List Tok) : Bool := (named r [61, 61] || named r [33, 61]) && nx r.tail.tail [110, 117, 108, 108]
def nullP (r : List Tok) : Rs Cn := (nameP r).bind fun x r =>
  if nx r [33, 61] = true then (want [110, 117, 108, 108] r.tail).bind fun _ r => .ok (.not (.null x)) r
  else (want [61, 61] r).bind fun _ r => (want [110, 117, 108, 108] r).bind fun _ r => .ok (.null x) r
def cmpP (f d : Nat) (r : List Tok) : Rs Cn := (sumP f d r).bind fun a r => match cmpK (txt r) with
  | none => .er r 51
  | some k => (sumP f d r.tail).bind fun b r => .ok (.cmp k a b) r
def andOf (u : List Tok → Rs Cn) (f : Nat) (r : List Tok) : Rs Cn := (u r).bind fun a r => chain .both andK u f a r
def condOf (u : List Tok → Rs Cn) (f : Nat) (r : List Tok) : Rs Cn := (andOf u f r).bind fun a r => chain .both orK (andOf u f) f a r
def notP : Nat → Nat → List Tok → Rs Cn
  | 0, _, _ => .no
  | f + 1, d, r =>
    if nx r [33] = true then (enterP [33] d r).bind fun _ r => (notP f (d + 1) r).bind fun c r => .ok (.not c) r
    else if nx r [40] = true then (enterP [40] d r).bind fun _ r => (condOf (notP f (d + 1)) f r).bind fun c r => (want [41] r).bind fun _ r => .ok c r
    else if isNull r = true then nullP r
    else cmpP f d r
def condP (f d : Nat) (r : List Tok) : Rs Cn := condOf (notP f d) f r
def testP (f d : Nat) (r : List Tok) : Rs Cn := (want [40] r).bind fun _ r => (condP f d r).bind fun c r => (want [41] r).bind fun _ r => .ok c r
def indexP (f d : Nat) (r : List Tok) : Rs Ex := (want [91] r).bind fun _ r => (sumP f d r).bind fun e r => (want [93] r).bind fun _ r => .ok e r

/-- More of a list, behind commas; how many there are already is told. -/
def many {α : Type} (u : Nat → List Tok → Rs α) : Nat → List α → List Tok → Rs (List α)
  | 0, _, _ => .no
  | g + 1, l, r => if nx r [44] = true then (u l.length r.tail).bind fun a r => many u g (l ++ [a]) r else .ok l r
def argsP (f d : Nat) (r : List Tok) : Rs (List Ex) := (want [40] r).bind fun _ r =>
  if nx r [41] = true then .ok [] r.tail
  else (sumP f d r).bind fun a r => (many (fun _ => sumP f d) f [a] r).bind fun l r => (want [41] r).bind fun _ r => .ok l r

def storeP (f d a : Nat) (r : List Tok) : Rs Sm := (want [42] r).bind fun _ r => (nameP r).bind fun x r => (want [61] r).bind fun _ r => (sumP f d r).bind fun e r => (want [59] r).bind fun _ r => .ok (.mk 5 x [] (some e) none none [] [] [] a) r
def returnP (f d a : Nat) (r : List Tok) : Rs Sm := (want [114, 101, 116, 117, 114, 110] r).bind fun _ r => (sumP f d r).bind fun e r => (want [59] r).bind fun _ r => .ok (.mk 9 [] [] (some e) none none [] [] [] a) r
def assertP (f d a : Nat) (r : List Tok) : Rs Sm := (want [97, 115, 115, 101, 114, 116] r).bind fun _ r => (testP f d r).bind fun c r => (want [59] r).bind fun _ r => .ok (.mk 12 [] [] none none (some c) [] [] [] a) r
def putP (f d a : Nat) (r : List Tok) : Rs Sm := (nameP r).bind fun y r => (indexP f d r).bind fun e r => (want [61] r).bind fun _ r => (sumP f d r).bind fun e2 r => (want [59] r).bind fun _ r => .ok (.mk 7 [] y (some e) (some e2) none [] [] [] a) r
def callP (f d : Nat) (x : List UInt8) (a : Nat) (r : List Tok) : Rs Sm := (nameP r).bind fun y r => (argsP f d r).bind fun l r => .ok (.mk 8 x y none none none l [] [] a) r
def callAloneP (f d a : Nat) (r : List Tok) : Rs Sm := (callP f d [] a r).bind fun s r => (want [59] r).bind fun _ r => .ok s r
def valueP (f d : Nat) (x : List UInt8) (a : Nat) (r : List Tok) : Rs Sm :=
  if nx r [110, 117, 108, 108] = true then .ok (.mk 3 x [] none none none [] [] [] a) r.tail
  else if nx r [38] = true then (nameP r.tail).bind fun y r => .ok (.mk 1 x y none none none [] [] [] a) r
  else if nx r [42] = true then (nameP r.tail).bind fun y r => .ok (.mk 4 x y none none none [] [] [] a) r
  else if named r [91] = true then (nameP r).bind fun y r => (indexP f d r).bind fun e r => .ok (.mk 6 x y (some e) none none [] [] [] a) r
  else if named r [40] = true then callP f d x a r
  else (sumP f d r).bind fun e r => .ok (.mk 0 x [] (some e) none none [] [] [] a) r
def assignP (f d a : Nat) (r : List Tok) : Rs Sm := (nameP r).bind fun x r => (want [61] r).bind fun _ r => (valueP f d x a r).bind fun s r => (want [59] r).bind fun _ r => .ok s r

/-- Statements up to the }: with each its number; how many there are then. -/
def stmsOf (s : Nat → List Tok → Rs (Sm × Nat)) : Nat → List Sm → Nat → List Tok → Rs (List Sm × Nat)
  | 0, _, _, _ => .no
  | g + 1, l, n, r => if nx r [125] = true then .ok (l, n) r.tail else (s n r).bind fun x r => stmsOf s g (l ++ [x.1]) x.2 r
def blockOf (s : Nat → List Tok → Rs (Sm × Nat)) (f d n : Nat) (r : List Tok) : Rs (List Sm × Nat) := (enterP [123] d r).bind fun _ r => stmsOf s f [] n r
def kindS (r : List Tok) : Option Nat :=
  if nx r [42] = true then some 0 else if nx r [114, 101, 116, 117, 114, 110] = true then some 1 else if nx r [97, 115, 115, 101, 114, 116] = true then some 2
  else if nx r [105, 102] = true then some 3 else if nx r [119, 104, 105, 108, 101] = true then some 4
  else if isNm r = true then (if nx r.tail [91] = true then some 5 else if nx r.tail [40] = true then some 6 else some 7) else none
def withN {α : Type} (n : Nat) (x : Rs α) : Rs (α × Nat) := x.bind fun a r => .ok (a, n) r
def ifP (s : Nat → List Tok → Rs (Sm × Nat)) (f d a n : Nat) (r : List Tok) : Rs (Sm × Nat) := (want [105, 102] r).bind fun _ r => (testP f d r).bind fun c r => (blockOf s f d n r).bind fun t r =>
  if nx r [101, 108, 115, 101] = true then (blockOf s f d t.2 r.tail).bind fun e r => .ok (.mk 10 [] [] none none (some c) [] t.1 e.1 a, e.2) r
  else .ok (.mk 10 [] [] none none (some c) [] t.1 [] a, t.2) r
def whileP (s : Nat → List Tok → Rs (Sm × Nat)) (f d a n : Nat) (r : List Tok) : Rs (Sm × Nat) := (want [119, 104, 105, 108, 101] r).bind fun _ r => (testP f d r).bind fun c r => (blockOf s f d n r).bind fun t r =>
  .ok (.mk 11 [] [] none none (some c) [] t.1 [] a, t.2) r
def bodyP (s : Nat → List Tok → Rs (Sm × Nat)) (f d a n : Nat) : Nat → List Tok → Rs (Sm × Nat)
  | 0, r => withN n (storeP f d a r)
  | 1, r => withN n (returnP f d a r)
  | 2, r => withN n (assertP f d a r)
  | 3, r => ifP s f d a n r
  | 4, r => whileP s f d a n r
  | 5, r => withN n (putP f d a r)
  | 6, r => withN n (callAloneP f d a r)
  | _, r => withN n (assignP f d a r)
def stm : Nat → Nat → Nat → List Tok → Rs (Sm × Nat)
  | 0, _, _, _ => .no
  | f + 1, d, n, r => match kindS r with
    | none => .er r 51
    | some k => if n = 200 then .er r 53 else bodyP (stm f (d + 1)) f d n (n + 1) k r

def declP (n most : Nat) (r : List Tok) : Rs (List UInt8) := (nameP r).bind fun x r' => if n = most then .er r 53 else .ok x r'
def paramP (n : Nat) (r : List Tok) : Rs Vr := (declP n 6 (if nx r [42] = true then r.tail else r)).bind fun x r' => .ok ⟨x, nx r [42]⟩ r'
def paramsP (f : Nat) (r : List Tok) : Rs (List Vr) := (want [40] r).bind fun _ r =>
  if nx r [41] = true then .ok [] r.tail
  else (paramP 0 r).bind fun a r => (many paramP f [a] r).bind fun l r => (want [41] r).bind fun _ r => .ok l r
def localsP : Nat → List Vr → List Tok → Rs (List Vr)
  | 0, _, _ => .no
  | g + 1, l, r => if nx r [118, 97, 114] = true ∨ nx r [112, 116, 114] = true then (declP l.length 20 r.tail).bind fun x r' => (want [59] r').bind fun _ r' => localsP g (l ++ [⟨x, nx r [112, 116, 114]⟩]) r'
    else .ok l r
def funcP (f : Nat) (r : List Tok) : Rs Fn7 := (want [102, 110] r).bind fun _ r => (nameP r).bind fun x r => (paramsP f r).bind fun ps r => (enterP [123] 0 r).bind fun _ r =>
  (localsP f [] r).bind fun ls r => (stmsOf (stm f 1) f [] 0 r).bind fun b r => .ok ⟨x, ps, ls, b.1⟩ r

structure Gl where
  cells : List (List UInt8)
  arrays : List (List UInt8 × Nat)
def boundsP (r : List Tok) : Rs Nat := (want [91] r).bind fun _ r => (numP r).bind fun n r' => if n = 0 then .er r 51 else if 1048576 < n then .er r 53 else (want [93] r').bind fun _ r' => .ok n r'
def globL : Nat → Gl → List Tok → Rs Gl
  | 0, _, _ => .no
  | f + 1, g, [] => .ok g []
  | f + 1, g, t :: r =>
    if nx (t :: r) [99, 101, 108, 108] = true then (declP (g.cells.length + g.arrays.length) 20 r).bind fun x r => (want [59] r).bind fun _ r => globL f ⟨g.cells ++ [x], g.arrays⟩ r
    else (want [97, 114, 114, 97, 121] (t :: r)).bind fun _ r => (declP (g.cells.length + g.arrays.length) 20 r).bind fun x r => (boundsP r).bind fun n r => (want [59] r).bind fun _ r => globL f ⟨g.cells, g.arrays ++ [(x, n)]⟩ r
def globP (f : Nat) (r : List Tok) : Rs Gl := globL f ⟨[], []⟩ r

def atOf (len : Nat) : List Tok → Nat
  | [] => len
  | t :: _ => t.at_
/-- The whole text: it must end there. -/
def wholeP {α : Type} (len : Nat) : Rs α → Option (Except (Nat × Nat) α)
  | .ok a [] => some (.ok a)
  | .ok _ r => some (.error (atOf len r, 51))
  | .er r n => some (.error (atOf len r, n))
  | .no => none
def textP {α : Type} (p : List Tok → Rs α) (s : List UInt8) : Option (Except (Nat × Nat) α) :=
  match lexT s with
  | .error x => some (.error x)
  | .ok ts => wholeP s.length (p ts)
end Go.Proofs.YtojbfopmlgdjlaaDoor
