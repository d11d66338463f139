/-
  NARROWER THAN 'FOR EVERY INPUT', by the rows' own cells (each row's printed sentence says how): WalKeeps: laid · WalFalls: laid · WalTwice: laid · WalForeign: laid · WalTogether: laid · WalResets: laid.
  DERIVED. THE GIVEN ROWS OF THIS SEAT. 6 by the template 'for every input the law returns true; each argument reads behind the call as it read before'; 0 by the template 'total and deterministic' (their statements: YtimblkkojcbipaaDoorTotals.lean).
  GIVEN WITH THE SEED: the statements are not yours to turn. If you find one false, say at which input.
  Laid BY PROGRAM, IN A SANDBOX (cutbox-rows.mjs): the forced cells as the released guide's own fill.sh prints them over the translation 31e476dd923d692c… (all of the seat's roots in one cut). By AI agents, Wed Nov 11 2026. No macro, syntax, notation, axiom, sorry.
-/
import Derived.Test.YtimblkkojcbipaaDoorChecked
import GoSem.Claim
import GoSem.ClaimJoined
import GoSem.ClaimMapViews
import Derived.JoinedTies
import Derived.KernelRfl
namespace Go.Proofs.YtimblkkojcbipaaDoor
/- THE CELL 'sum', in the pinned program and in every row, IS THE sha256 OF THE DUMP (.gsa) THAT YtimblkkojcbipaaDoorProg.lean LOADS. Nothing in Lean hashes anything: it is a label: what it is worth is what the hold of that sum in a sandbox is worth. -/
noncomputable def Tryd.pinned : Pinned := { name := "ytimblkkojcbipaadoor", sum := "31e476dd923d692c77992bf9ba4a160580bb7b4e9994a78a5a72e3ec48a0de52", checked := Tryd.checked }
namespace Rows
def none {H : Type} : Left H := { results := [], args := [] }

/- WHAT THE LISTED PACKAGE-LEVEL VARIABLES READ AS WHEN THE CALL BEGINS. Each datum BY PROGRAM (the guide's laid-datum.mjs) off the statement by which the dump's own 'gosem.cut.vars' lays the variable. In a bare row this is a premise. The card (YtimblkkojcbipaaDoorCards.lean) ties it to the program's text. -/
def laid_augur_sum_nibbleSums {H : Type} : DataW H := .agg [.lit (.int .u32 0), .lit (.int .u32 498536548), .lit (.int .u32 997073096), .lit (.int .u32 651767980), .lit (.int .u32 1994146192), .lit (.int .u32 1802195444), .lit (.int .u32 1303535960), .lit (.int .u32 1342533948), .lit (.int .u32 3988292384), .lit (.int .u32 4027552580), .lit (.int .u32 3604390888), .lit (.int .u32 3412177804), .lit (.int .u32 2607071920), .lit (.int .u32 2262029012), .lit (.int .u32 2685067896), .lit (.int .u32 3183342108)]

/-- 'augurlaw4.WalKeeps': WHATEVER THE INPUT: true; the input reads as it did. -/
def walKeepsSpec : ChangeSpec := { name := "walKeeps", fn := fun _ => fun
  | [d1, d2] => { results := [.lit (.bool true)], args := [d1, d2] }
  | _ => none }
def walKeepsRow : OpenClaim := { program := "ytimblkkojcbipaadoor", sum := "31e476dd923d692c77992bf9ba4a160580bb7b4e9994a78a5a72e3ec48a0de52", func := "augur/augurlaw4.WalKeeps", spec := "walKeeps", unfollowed := true, recurses := true, named := ["augur/sum.nibbleSums"], apart := false, laid := [("augur/sum.nibbleSums", laid_augur_sum_nibbleSums)] }
def WalKeepsSaid : Prop := walKeepsRow.holds Tryd.pinned (OpenSpec.ofChange walKeepsSpec)

/-- ITS FALSE NEIGHBOUR: 'it returns false'. Refute it at one input. -/
def walKeepsWrong : ChangeSpec := { name := "walKeeps", fn := fun _ => fun
  | [d1, d2] => { results := [.lit (.bool false)], args := [d1, d2] }
  | _ => none }
def WalKeepsWrongFalsely : Prop := walKeepsRow.holds Tryd.pinned (OpenSpec.ofChange walKeepsWrong)

/-- 'augurlaw4.WalFalls': WHATEVER THE INPUT: true; the input reads as it did. -/
def walFallsSpec : ChangeSpec := { name := "walFalls", fn := fun _ => fun
  | [d1, d2, d3, d4] => { results := [.lit (.bool true)], args := [d1, d2, d3, d4] }
  | _ => none }
def walFallsRow : OpenClaim := { program := "ytimblkkojcbipaadoor", sum := "31e476dd923d692c77992bf9ba4a160580bb7b4e9994a78a5a72e3ec48a0de52", func := "augur/augurlaw4.WalFalls", spec := "walFalls", unfollowed := true, recurses := true, named := ["augur/sum.nibbleSums"], apart := false, laid := [("augur/sum.nibbleSums", laid_augur_sum_nibbleSums)] }
def WalFallsSaid : Prop := walFallsRow.holds Tryd.pinned (OpenSpec.ofChange walFallsSpec)

/-- ITS FALSE NEIGHBOUR: 'it returns false'. Refute it at one input. -/
def walFallsWrong : ChangeSpec := { name := "walFalls", fn := fun _ => fun
  | [d1, d2, d3, d4] => { results := [.lit (.bool false)], args := [d1, d2, d3, d4] }
  | _ => none }
def WalFallsWrongFalsely : Prop := walFallsRow.holds Tryd.pinned (OpenSpec.ofChange walFallsWrong)

/-- 'augurlaw4.WalTwice': WHATEVER THE INPUT: true; the input reads as it did. -/
def walTwiceSpec : ChangeSpec := { name := "walTwice", fn := fun _ => fun
  | [d1, d2, d3, d4, d5, d6] => { results := [.lit (.bool true)], args := [d1, d2, d3, d4, d5, d6] }
  | _ => none }
def walTwiceRow : OpenClaim := { program := "ytimblkkojcbipaadoor", sum := "31e476dd923d692c77992bf9ba4a160580bb7b4e9994a78a5a72e3ec48a0de52", func := "augur/augurlaw4.WalTwice", spec := "walTwice", unfollowed := true, recurses := true, named := ["augur/sum.nibbleSums"], apart := false, laid := [("augur/sum.nibbleSums", laid_augur_sum_nibbleSums)] }
def WalTwiceSaid : Prop := walTwiceRow.holds Tryd.pinned (OpenSpec.ofChange walTwiceSpec)

/-- ITS FALSE NEIGHBOUR: 'it returns false'. Refute it at one input. -/
def walTwiceWrong : ChangeSpec := { name := "walTwice", fn := fun _ => fun
  | [d1, d2, d3, d4, d5, d6] => { results := [.lit (.bool false)], args := [d1, d2, d3, d4, d5, d6] }
  | _ => none }
def WalTwiceWrongFalsely : Prop := walTwiceRow.holds Tryd.pinned (OpenSpec.ofChange walTwiceWrong)

/-- 'augurlaw4.WalForeign': WHATEVER THE INPUT: true; the input reads as it did. -/
def walForeignSpec : ChangeSpec := { name := "walForeign", fn := fun _ => fun
  | [d1, d2, d3] => { results := [.lit (.bool true)], args := [d1, d2, d3] }
  | _ => none }
def walForeignRow : OpenClaim := { program := "ytimblkkojcbipaadoor", sum := "31e476dd923d692c77992bf9ba4a160580bb7b4e9994a78a5a72e3ec48a0de52", func := "augur/augurlaw4.WalForeign", spec := "walForeign", unfollowed := true, recurses := true, named := ["augur/sum.nibbleSums"], apart := false, laid := [("augur/sum.nibbleSums", laid_augur_sum_nibbleSums)] }
def WalForeignSaid : Prop := walForeignRow.holds Tryd.pinned (OpenSpec.ofChange walForeignSpec)

/-- ITS FALSE NEIGHBOUR: 'it returns false'. Refute it at one input. -/
def walForeignWrong : ChangeSpec := { name := "walForeign", fn := fun _ => fun
  | [d1, d2, d3] => { results := [.lit (.bool false)], args := [d1, d2, d3] }
  | _ => none }
def WalForeignWrongFalsely : Prop := walForeignRow.holds Tryd.pinned (OpenSpec.ofChange walForeignWrong)

/-- 'augurlaw4.WalTogether': WHATEVER THE INPUT: true; the input reads as it did. -/
def walTogetherSpec : ChangeSpec := { name := "walTogether", fn := fun _ => fun
  | [d1, d2] => { results := [.lit (.bool true)], args := [d1, d2] }
  | _ => none }
def walTogetherRow : OpenClaim := { program := "ytimblkkojcbipaadoor", sum := "31e476dd923d692c77992bf9ba4a160580bb7b4e9994a78a5a72e3ec48a0de52", func := "augur/augurlaw4.WalTogether", spec := "walTogether", unfollowed := true, recurses := true, named := ["augur/sum.nibbleSums"], apart := false, laid := [("augur/sum.nibbleSums", laid_augur_sum_nibbleSums)] }
def WalTogetherSaid : Prop := walTogetherRow.holds Tryd.pinned (OpenSpec.ofChange walTogetherSpec)

/-- ITS FALSE NEIGHBOUR: 'it returns false'. Refute it at one input. -/
def walTogetherWrong : ChangeSpec := { name := "walTogether", fn := fun _ => fun
  | [d1, d2] => { results := [.lit (.bool false)], args := [d1, d2] }
  | _ => none }
def WalTogetherWrongFalsely : Prop := walTogetherRow.holds Tryd.pinned (OpenSpec.ofChange walTogetherWrong)

/-- 'augurlaw4.WalResets': WHATEVER THE INPUT: true; the input reads as it did. -/
def walResetsSpec : ChangeSpec := { name := "walResets", fn := fun _ => fun
  | [d1, d2] => { results := [.lit (.bool true)], args := [d1, d2] }
  | _ => none }
def walResetsRow : OpenClaim := { program := "ytimblkkojcbipaadoor", sum := "31e476dd923d692c77992bf9ba4a160580bb7b4e9994a78a5a72e3ec48a0de52", func := "augur/augurlaw4.WalResets", spec := "walResets", unfollowed := true, recurses := true, named := ["augur/sum.nibbleSums"], apart := false, laid := [("augur/sum.nibbleSums", laid_augur_sum_nibbleSums)] }
def WalResetsSaid : Prop := walResetsRow.holds Tryd.pinned (OpenSpec.ofChange walResetsSpec)

/-- ITS FALSE NEIGHBOUR: 'it returns false'. Refute it at one input. -/
def walResetsWrong : ChangeSpec := { name := "walResets", fn := fun _ => fun
  | [d1, d2] => { results := [.lit (.bool false)], args := [d1, d2] }
  | _ => none }
def WalResetsWrongFalsely : Prop := walResetsRow.holds Tryd.pinned (OpenSpec.ofChange walResetsWrong)

/- THE SECOND FORM. 'bulk': how many values and letters a reading holds, each counted each time it is reached (what is shared counts as often as it is met; a slice's spare places count too). A statement '..UptoSaid' is the law's where the arguments, and the package variables that the reading takes, are together of bulk at most 1048576: NARROWER than '..Said'. Prove '..Said' where nothing that the law and all that it calls make is longer than what came in: it says more and counts as full. Else prove '..UptoSaid'. A law counts once. -/
mutual
def uptoBulk {H : Type} : DataW H → Nat
  | .lit (.string bytes) => bytes.length + 1
  | .lit _ => 1
  | .nil => 1
  | .ptr d => uptoBulk d + 1
  | .slice elems spare => uptoBulkAll elems + uptoBulkAll spare + 1
  | .agg parts => uptoBulkAll parts + 1
  | .iface _ d => uptoBulk d + 1
  | .map entries => uptoBulkEntries entries + 1
  | .held _ => 1
def uptoBulkAll {H : Type} : List (DataW H) → Nat
  | [] => 0
  | d :: r => uptoBulk d + uptoBulkAll r
def uptoBulkEntries {H : Type} : List (Lit × DataW H) → Nat
  | [] => 0
  | x :: r => uptoBulkEntry x + uptoBulkEntries r
def uptoBulkEntry {H : Type} : Lit × DataW H → Nat
  | (.string bytes, d) => bytes.length + uptoBulk d + 1
  | (_, d) => uptoBulk d + 1
 end
def uptoSmall : (H : Type) → List (DataW H) → Bool := fun _ ds => decide (uptoBulkAll ds ≤ 1048576)
def OpenSpec.upto (s : _root_.Go.ChangeSpec) : _root_.Go.OpenSpec := { _root_.Go.OpenSpec.ofChange s with cond := some uptoSmall }

/-- 'augurlaw4.WalKeeps', WHERE WHAT IT READS IS OF BULK AT MOST 1048576: true; the input reads as it did. -/
def walKeepsUptoRow : OpenClaim := { program := "ytimblkkojcbipaadoor", sum := "31e476dd923d692c77992bf9ba4a160580bb7b4e9994a78a5a72e3ec48a0de52", func := "augur/augurlaw4.WalKeeps", spec := "walKeeps", unfollowed := true, recurses := true, named := ["augur/sum.nibbleSums"], apart := false, laid := [("augur/sum.nibbleSums", laid_augur_sum_nibbleSums)], narrowed := true }
def WalKeepsUptoSaid : Prop := walKeepsUptoRow.holds Tryd.pinned (OpenSpec.upto walKeepsSpec)

/-- 'augurlaw4.WalFalls', WHERE WHAT IT READS IS OF BULK AT MOST 1048576: true; the input reads as it did. -/
def walFallsUptoRow : OpenClaim := { program := "ytimblkkojcbipaadoor", sum := "31e476dd923d692c77992bf9ba4a160580bb7b4e9994a78a5a72e3ec48a0de52", func := "augur/augurlaw4.WalFalls", spec := "walFalls", unfollowed := true, recurses := true, named := ["augur/sum.nibbleSums"], apart := false, laid := [("augur/sum.nibbleSums", laid_augur_sum_nibbleSums)], narrowed := true }
def WalFallsUptoSaid : Prop := walFallsUptoRow.holds Tryd.pinned (OpenSpec.upto walFallsSpec)

/-- 'augurlaw4.WalTwice', WHERE WHAT IT READS IS OF BULK AT MOST 1048576: true; the input reads as it did. -/
def walTwiceUptoRow : OpenClaim := { program := "ytimblkkojcbipaadoor", sum := "31e476dd923d692c77992bf9ba4a160580bb7b4e9994a78a5a72e3ec48a0de52", func := "augur/augurlaw4.WalTwice", spec := "walTwice", unfollowed := true, recurses := true, named := ["augur/sum.nibbleSums"], apart := false, laid := [("augur/sum.nibbleSums", laid_augur_sum_nibbleSums)], narrowed := true }
def WalTwiceUptoSaid : Prop := walTwiceUptoRow.holds Tryd.pinned (OpenSpec.upto walTwiceSpec)

/-- 'augurlaw4.WalForeign', WHERE WHAT IT READS IS OF BULK AT MOST 1048576: true; the input reads as it did. -/
def walForeignUptoRow : OpenClaim := { program := "ytimblkkojcbipaadoor", sum := "31e476dd923d692c77992bf9ba4a160580bb7b4e9994a78a5a72e3ec48a0de52", func := "augur/augurlaw4.WalForeign", spec := "walForeign", unfollowed := true, recurses := true, named := ["augur/sum.nibbleSums"], apart := false, laid := [("augur/sum.nibbleSums", laid_augur_sum_nibbleSums)], narrowed := true }
def WalForeignUptoSaid : Prop := walForeignUptoRow.holds Tryd.pinned (OpenSpec.upto walForeignSpec)

/-- 'augurlaw4.WalTogether', WHERE WHAT IT READS IS OF BULK AT MOST 1048576: true; the input reads as it did. -/
def walTogetherUptoRow : OpenClaim := { program := "ytimblkkojcbipaadoor", sum := "31e476dd923d692c77992bf9ba4a160580bb7b4e9994a78a5a72e3ec48a0de52", func := "augur/augurlaw4.WalTogether", spec := "walTogether", unfollowed := true, recurses := true, named := ["augur/sum.nibbleSums"], apart := false, laid := [("augur/sum.nibbleSums", laid_augur_sum_nibbleSums)], narrowed := true }
def WalTogetherUptoSaid : Prop := walTogetherUptoRow.holds Tryd.pinned (OpenSpec.upto walTogetherSpec)

/-- 'augurlaw4.WalResets', WHERE WHAT IT READS IS OF BULK AT MOST 1048576: true; the input reads as it did. -/
def walResetsUptoRow : OpenClaim := { program := "ytimblkkojcbipaadoor", sum := "31e476dd923d692c77992bf9ba4a160580bb7b4e9994a78a5a72e3ec48a0de52", func := "augur/augurlaw4.WalResets", spec := "walResets", unfollowed := true, recurses := true, named := ["augur/sum.nibbleSums"], apart := false, laid := [("augur/sum.nibbleSums", laid_augur_sum_nibbleSums)], narrowed := true }
def WalResetsUptoSaid : Prop := walResetsUptoRow.holds Tryd.pinned (OpenSpec.upto walResetsSpec)

end Rows
end Go.Proofs.YtimblkkojcbipaaDoor
