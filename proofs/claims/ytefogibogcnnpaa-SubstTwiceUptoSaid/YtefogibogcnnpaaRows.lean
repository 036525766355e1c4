/-
  NARROWER THAN 'FOR EVERY INPUT', by the rows' own cells (each row's printed sentence says how): SubstPuts: loops · SubstSeals: loops · SubstTwice: loops · SubstOpens: loops.
  DERIVED. THE GIVEN ROWS OF THIS SEAT. 4 by the template 'for every input the law returns true; each argument reads behind the call as it read before'; 0 by the template 'total and deterministic' (their statements: YtefogibogcnnpaaTotals.lean).
  GIVEN WITH THE SEED: the statements are not yours to turn. If you find one false, say at which input.
  Laid BY PROGRAM, IN A SANDBOX (cutbox-rows.mjs): the forced cells as the released guide's own fill.sh prints them over the translation c77c76da3a5f6398… (all of the seat's roots in one cut). By AI agents, Wed Nov 11 2026. No macro, syntax, notation, axiom, sorry.
-/
import Derived.Test.YtefogibogcnnpaaChecked
import GoSem.Claim
import GoSem.ClaimJoined
import GoSem.ClaimMapViews
import Derived.JoinedTies
import Derived.KernelRfl
namespace Go.Proofs.Ytefogibogcnnpaa
/- THE CELL 'sum', in the pinned program and in every row, IS THE sha256 OF THE DUMP (.gsa) THAT YtefogibogcnnpaaProg.lean LOADS. Nothing in Lean hashes anything: it is a label: what it is worth is what the hold of that sum in a sandbox is worth. -/
noncomputable def Try.pinned : Pinned := { name := "ytefogibogcnnpaa", sum := "c77c76da3a5f6398fff16df0adcf360ae415dc330322c5ff4af4158ea8895a92", checked := Try.checked }
namespace Rows
def none {H : Type} : Left H := { results := [], args := [] }

/-- 'limbecklaw07.SubstPuts': WHATEVER THE INPUT: true; the input reads as it did. -/
def substPutsSpec : ChangeSpec := { name := "substPuts", fn := fun _ => fun
  | [d1, d2, d3] => { results := [.lit (.bool true)], args := [d1, d2, d3] }
  | _ => none }
def substPutsRow : OpenClaim := { program := "ytefogibogcnnpaa", sum := "c77c76da3a5f6398fff16df0adcf360ae415dc330322c5ff4af4158ea8895a92", func := "limbeck/limbecklaw07.SubstPuts", spec := "substPuts", unfollowed := true, recurses := true, loops := true, apart := false }
def SubstPutsSaid : Prop := substPutsRow.holds Try.pinned (OpenSpec.ofChange substPutsSpec)

/-- ITS FALSE NEIGHBOUR: 'it returns false'. Refute it at one input. -/
def substPutsWrong : ChangeSpec := { name := "substPuts", fn := fun _ => fun
  | [d1, d2, d3] => { results := [.lit (.bool false)], args := [d1, d2, d3] }
  | _ => none }
def SubstPutsWrongFalsely : Prop := substPutsRow.holds Try.pinned (OpenSpec.ofChange substPutsWrong)

/-- 'limbecklaw07.SubstSeals': WHATEVER THE INPUT: true; the input reads as it did. -/
def substSealsSpec : ChangeSpec := { name := "substSeals", fn := fun _ => fun
  | [d1, d2, d3, d4] => { results := [.lit (.bool true)], args := [d1, d2, d3, d4] }
  | _ => none }
def substSealsRow : OpenClaim := { program := "ytefogibogcnnpaa", sum := "c77c76da3a5f6398fff16df0adcf360ae415dc330322c5ff4af4158ea8895a92", func := "limbeck/limbecklaw07.SubstSeals", spec := "substSeals", unfollowed := true, recurses := true, loops := true, apart := false }
def SubstSealsSaid : Prop := substSealsRow.holds Try.pinned (OpenSpec.ofChange substSealsSpec)

/-- ITS FALSE NEIGHBOUR: 'it returns false'. Refute it at one input. -/
def substSealsWrong : ChangeSpec := { name := "substSeals", fn := fun _ => fun
  | [d1, d2, d3, d4] => { results := [.lit (.bool false)], args := [d1, d2, d3, d4] }
  | _ => none }
def SubstSealsWrongFalsely : Prop := substSealsRow.holds Try.pinned (OpenSpec.ofChange substSealsWrong)

/-- 'limbecklaw07.SubstTwice': WHATEVER THE INPUT: true; the input reads as it did. -/
def substTwiceSpec : ChangeSpec := { name := "substTwice", fn := fun _ => fun
  | [d1, d2, d3] => { results := [.lit (.bool true)], args := [d1, d2, d3] }
  | _ => none }
def substTwiceRow : OpenClaim := { program := "ytefogibogcnnpaa", sum := "c77c76da3a5f6398fff16df0adcf360ae415dc330322c5ff4af4158ea8895a92", func := "limbeck/limbecklaw07.SubstTwice", spec := "substTwice", unfollowed := true, recurses := true, loops := true, apart := false }
def SubstTwiceSaid : Prop := substTwiceRow.holds Try.pinned (OpenSpec.ofChange substTwiceSpec)

/-- ITS FALSE NEIGHBOUR: 'it returns false'. Refute it at one input. -/
def substTwiceWrong : ChangeSpec := { name := "substTwice", fn := fun _ => fun
  | [d1, d2, d3] => { results := [.lit (.bool false)], args := [d1, d2, d3] }
  | _ => none }
def SubstTwiceWrongFalsely : Prop := substTwiceRow.holds Try.pinned (OpenSpec.ofChange substTwiceWrong)

/-- 'limbecklaw07.SubstOpens': WHATEVER THE INPUT: true; the input reads as it did. -/
def substOpensSpec : ChangeSpec := { name := "substOpens", fn := fun _ => fun
  | [d1, d2, d3] => { results := [.lit (.bool true)], args := [d1, d2, d3] }
  | _ => none }
def substOpensRow : OpenClaim := { program := "ytefogibogcnnpaa", sum := "c77c76da3a5f6398fff16df0adcf360ae415dc330322c5ff4af4158ea8895a92", func := "limbeck/limbecklaw07.SubstOpens", spec := "substOpens", unfollowed := true, recurses := true, loops := true, apart := false }
def SubstOpensSaid : Prop := substOpensRow.holds Try.pinned (OpenSpec.ofChange substOpensSpec)

/-- ITS FALSE NEIGHBOUR: 'it returns false'. Refute it at one input. -/
def substOpensWrong : ChangeSpec := { name := "substOpens", fn := fun _ => fun
  | [d1, d2, d3] => { results := [.lit (.bool false)], args := [d1, d2, d3] }
  | _ => none }
def SubstOpensWrongFalsely : Prop := substOpensRow.holds Try.pinned (OpenSpec.ofChange substOpensWrong)

/- THE SECOND FORM. 'bulk': how many values and letters a reading holds, each counted each time it is reached (what is shared counts as often as it is met; a slice's spare places count too). A statement '..UptoSaid' is the law's where the arguments, and the package variables that the reading takes, are together of bulk at most 1048576: NARROWER than '..Said'. Prove '..Said' where nothing that the law and all that it calls make is longer than what came in: it says more and counts as full. Else prove '..UptoSaid'. A law counts once. -/
mutual
def uptoBulk {H : Type} : DataW H → Nat
  | .lit (.string bytes) => bytes.length + 1
  | .lit _ => 1
  | .nil => 1
  | .ptr d => uptoBulk d + 1
  | .slice elems spare => uptoBulkAll elems + uptoBulkAll spare + 1
  | .agg parts => uptoBulkAll parts + 1
  | .iface _ d => uptoBulk d + 1
  | .map entries => uptoBulkEntries entries + 1
  | .held _ => 1
def uptoBulkAll {H : Type} : List (DataW H) → Nat
  | [] => 0
  | d :: r => uptoBulk d + uptoBulkAll r
def uptoBulkEntries {H : Type} : List (Lit × DataW H) → Nat
  | [] => 0
  | x :: r => uptoBulkEntry x + uptoBulkEntries r
def uptoBulkEntry {H : Type} : Lit × DataW H → Nat
  | (.string bytes, d) => bytes.length + uptoBulk d + 1
  | (_, d) => uptoBulk d + 1
 end
def uptoSmall : (H : Type) → List (DataW H) → Bool := fun _ ds => decide (uptoBulkAll ds ≤ 1048576)
def OpenSpec.upto (s : _root_.Go.ChangeSpec) : _root_.Go.OpenSpec := { _root_.Go.OpenSpec.ofChange s with cond := some uptoSmall }

/-- 'limbecklaw07.SubstPuts', WHERE WHAT IT READS IS OF BULK AT MOST 1048576: true; the input reads as it did. -/
def substPutsUptoRow : OpenClaim := { program := "ytefogibogcnnpaa", sum := "c77c76da3a5f6398fff16df0adcf360ae415dc330322c5ff4af4158ea8895a92", func := "limbeck/limbecklaw07.SubstPuts", spec := "substPuts", unfollowed := true, recurses := true, loops := true, apart := false, narrowed := true }
def SubstPutsUptoSaid : Prop := substPutsUptoRow.holds Try.pinned (OpenSpec.upto substPutsSpec)

/-- 'limbecklaw07.SubstSeals', WHERE WHAT IT READS IS OF BULK AT MOST 1048576: true; the input reads as it did. -/
def substSealsUptoRow : OpenClaim := { program := "ytefogibogcnnpaa", sum := "c77c76da3a5f6398fff16df0adcf360ae415dc330322c5ff4af4158ea8895a92", func := "limbeck/limbecklaw07.SubstSeals", spec := "substSeals", unfollowed := true, recurses := true, loops := true, apart := false, narrowed := true }
def SubstSealsUptoSaid : Prop := substSealsUptoRow.holds Try.pinned (OpenSpec.upto substSealsSpec)

/-- 'limbecklaw07.SubstTwice', WHERE WHAT IT READS IS OF BULK AT MOST 1048576: true; the input reads as it did. -/
def substTwiceUptoRow : OpenClaim := { program := "ytefogibogcnnpaa", sum := "c77c76da3a5f6398fff16df0adcf360ae415dc330322c5ff4af4158ea8895a92", func := "limbeck/limbecklaw07.SubstTwice", spec := "substTwice", unfollowed := true, recurses := true, loops := true, apart := false, narrowed := true }
def SubstTwiceUptoSaid : Prop := substTwiceUptoRow.holds Try.pinned (OpenSpec.upto substTwiceSpec)

/-- 'limbecklaw07.SubstOpens', WHERE WHAT IT READS IS OF BULK AT MOST 1048576: true; the input reads as it did. -/
def substOpensUptoRow : OpenClaim := { program := "ytefogibogcnnpaa", sum := "c77c76da3a5f6398fff16df0adcf360ae415dc330322c5ff4af4158ea8895a92", func := "limbeck/limbecklaw07.SubstOpens", spec := "substOpens", unfollowed := true, recurses := true, loops := true, apart := false, narrowed := true }
def SubstOpensUptoSaid : Prop := substOpensUptoRow.holds Try.pinned (OpenSpec.upto substOpensSpec)

end Rows
end Go.Proofs.Ytefogibogcnnpaa
