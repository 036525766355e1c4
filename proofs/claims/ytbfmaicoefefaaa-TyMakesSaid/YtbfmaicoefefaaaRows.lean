/-
  NARROWER THAN 'FOR EVERY INPUT', by the rows' own cells (each row's printed sentence says how): TyRight: loops · TySame: loops · TyMakes: loops · TyTurned: loops · SubstPuts: loops · SubstSeals: loops · SubstOpens: loops · SubstTwice: loops.
  DERIVED. THE GIVEN ROWS OF THIS SEAT. 8 by the template 'for every input the law returns true; each argument reads behind the call as it read before'; 0 by the template 'total and deterministic' (their statements: YtbfmaicoefefaaaTotals.lean).
  GIVEN WITH THE SEED: the statements are not yours to turn. If you find one false, say at which input.
  Laid BY PROGRAM, IN A SANDBOX (cutbox-rows.mjs): the forced cells as the released guide's own fill.sh prints them over the translation f3b29d476bc4881b… (all of the seat's roots in one cut). By AI agents, Wed Nov 11 2026. No macro, syntax, notation, axiom, sorry.
-/
import Derived.Test.YtbfmaicoefefaaaChecked
import GoSem.Claim
import GoSem.ClaimJoined
import GoSem.ClaimMapViews
import Derived.JoinedTies
import Derived.KernelRfl
namespace Go.Proofs.Ytbfmaicoefefaaa
/- THE CELL 'sum', in the pinned program and in every row, IS THE sha256 OF THE DUMP (.gsa) THAT YtbfmaicoefefaaaProg.lean LOADS. Nothing in Lean hashes anything: it is a label: what it is worth is what the hold of that sum in a sandbox is worth. -/
noncomputable def Try.pinned : Pinned := { name := "ytbfmaicoefefaaa", sum := "f3b29d476bc4881ba64de0339ce1cbaad7052a2243464c96484c84ace2aed82a", checked := Try.checked }
namespace Rows
def none {H : Type} : Left H := { results := [], args := [] }

/-- 'limbecklaw04.TyRight': WHATEVER THE INPUT: true; the input reads as it did. -/
def tyRightSpec : ChangeSpec := { name := "tyRight", fn := fun _ => fun
  | [d1, d2] => { results := [.lit (.bool true)], args := [d1, d2] }
  | _ => none }
def tyRightRow : OpenClaim := { program := "ytbfmaicoefefaaa", sum := "f3b29d476bc4881ba64de0339ce1cbaad7052a2243464c96484c84ace2aed82a", func := "limbeck/limbecklaw04.TyRight", spec := "tyRight", unfollowed := true, recurses := true, loops := true, apart := false }
def TyRightSaid : Prop := tyRightRow.holds Try.pinned (OpenSpec.ofChange tyRightSpec)

/-- ITS FALSE NEIGHBOUR: 'it returns false'. Refute it at one input. -/
def tyRightWrong : ChangeSpec := { name := "tyRight", fn := fun _ => fun
  | [d1, d2] => { results := [.lit (.bool false)], args := [d1, d2] }
  | _ => none }
def TyRightWrongFalsely : Prop := tyRightRow.holds Try.pinned (OpenSpec.ofChange tyRightWrong)

/-- 'limbecklaw04.TySame': WHATEVER THE INPUT: true; the input reads as it did. -/
def tySameSpec : ChangeSpec := { name := "tySame", fn := fun _ => fun
  | [d1, d2] => { results := [.lit (.bool true)], args := [d1, d2] }
  | _ => none }
def tySameRow : OpenClaim := { program := "ytbfmaicoefefaaa", sum := "f3b29d476bc4881ba64de0339ce1cbaad7052a2243464c96484c84ace2aed82a", func := "limbeck/limbecklaw04.TySame", spec := "tySame", unfollowed := true, recurses := true, loops := true, apart := false }
def TySameSaid : Prop := tySameRow.holds Try.pinned (OpenSpec.ofChange tySameSpec)

/-- ITS FALSE NEIGHBOUR: 'it returns false'. Refute it at one input. -/
def tySameWrong : ChangeSpec := { name := "tySame", fn := fun _ => fun
  | [d1, d2] => { results := [.lit (.bool false)], args := [d1, d2] }
  | _ => none }
def TySameWrongFalsely : Prop := tySameRow.holds Try.pinned (OpenSpec.ofChange tySameWrong)

/-- 'limbecklaw04.TyMakes': WHATEVER THE INPUT: true; the input reads as it did. -/
def tyMakesSpec : ChangeSpec := { name := "tyMakes", fn := fun _ => fun
  | [d1, d2, d3, d4] => { results := [.lit (.bool true)], args := [d1, d2, d3, d4] }
  | _ => none }
def tyMakesRow : OpenClaim := { program := "ytbfmaicoefefaaa", sum := "f3b29d476bc4881ba64de0339ce1cbaad7052a2243464c96484c84ace2aed82a", func := "limbeck/limbecklaw04.TyMakes", spec := "tyMakes", unfollowed := true, recurses := true, loops := true, apart := false }
def TyMakesSaid : Prop := tyMakesRow.holds Try.pinned (OpenSpec.ofChange tyMakesSpec)

/-- ITS FALSE NEIGHBOUR: 'it returns false'. Refute it at one input. -/
def tyMakesWrong : ChangeSpec := { name := "tyMakes", fn := fun _ => fun
  | [d1, d2, d3, d4] => { results := [.lit (.bool false)], args := [d1, d2, d3, d4] }
  | _ => none }
def TyMakesWrongFalsely : Prop := tyMakesRow.holds Try.pinned (OpenSpec.ofChange tyMakesWrong)

/-- 'limbecklaw04.TyTurned': WHATEVER THE INPUT: true; the input reads as it did. -/
def tyTurnedSpec : ChangeSpec := { name := "tyTurned", fn := fun _ => fun
  | [d1, d2, d3] => { results := [.lit (.bool true)], args := [d1, d2, d3] }
  | _ => none }
def tyTurnedRow : OpenClaim := { program := "ytbfmaicoefefaaa", sum := "f3b29d476bc4881ba64de0339ce1cbaad7052a2243464c96484c84ace2aed82a", func := "limbeck/limbecklaw04.TyTurned", spec := "tyTurned", unfollowed := true, recurses := true, loops := true, apart := false }
def TyTurnedSaid : Prop := tyTurnedRow.holds Try.pinned (OpenSpec.ofChange tyTurnedSpec)

/-- ITS FALSE NEIGHBOUR: 'it returns false'. Refute it at one input. -/
def tyTurnedWrong : ChangeSpec := { name := "tyTurned", fn := fun _ => fun
  | [d1, d2, d3] => { results := [.lit (.bool false)], args := [d1, d2, d3] }
  | _ => none }
def TyTurnedWrongFalsely : Prop := tyTurnedRow.holds Try.pinned (OpenSpec.ofChange tyTurnedWrong)

/-- 'limbecklaw07.SubstPuts': WHATEVER THE INPUT: true; the input reads as it did. -/
def substPutsSpec : ChangeSpec := { name := "substPuts", fn := fun _ => fun
  | [d1, d2, d3] => { results := [.lit (.bool true)], args := [d1, d2, d3] }
  | _ => none }
def substPutsRow : OpenClaim := { program := "ytbfmaicoefefaaa", sum := "f3b29d476bc4881ba64de0339ce1cbaad7052a2243464c96484c84ace2aed82a", func := "limbeck/limbecklaw07.SubstPuts", spec := "substPuts", unfollowed := true, recurses := true, loops := true, apart := false }
def SubstPutsSaid : Prop := substPutsRow.holds Try.pinned (OpenSpec.ofChange substPutsSpec)

/-- ITS FALSE NEIGHBOUR: 'it returns false'. Refute it at one input. -/
def substPutsWrong : ChangeSpec := { name := "substPuts", fn := fun _ => fun
  | [d1, d2, d3] => { results := [.lit (.bool false)], args := [d1, d2, d3] }
  | _ => none }
def SubstPutsWrongFalsely : Prop := substPutsRow.holds Try.pinned (OpenSpec.ofChange substPutsWrong)

/-- 'limbecklaw07.SubstSeals': WHATEVER THE INPUT: true; the input reads as it did. -/
def substSealsSpec : ChangeSpec := { name := "substSeals", fn := fun _ => fun
  | [d1, d2, d3, d4] => { results := [.lit (.bool true)], args := [d1, d2, d3, d4] }
  | _ => none }
def substSealsRow : OpenClaim := { program := "ytbfmaicoefefaaa", sum := "f3b29d476bc4881ba64de0339ce1cbaad7052a2243464c96484c84ace2aed82a", func := "limbeck/limbecklaw07.SubstSeals", spec := "substSeals", unfollowed := true, recurses := true, loops := true, apart := false }
def SubstSealsSaid : Prop := substSealsRow.holds Try.pinned (OpenSpec.ofChange substSealsSpec)

/-- ITS FALSE NEIGHBOUR: 'it returns false'. Refute it at one input. -/
def substSealsWrong : ChangeSpec := { name := "substSeals", fn := fun _ => fun
  | [d1, d2, d3, d4] => { results := [.lit (.bool false)], args := [d1, d2, d3, d4] }
  | _ => none }
def SubstSealsWrongFalsely : Prop := substSealsRow.holds Try.pinned (OpenSpec.ofChange substSealsWrong)

/-- 'limbecklaw07.SubstOpens': WHATEVER THE INPUT: true; the input reads as it did. -/
def substOpensSpec : ChangeSpec := { name := "substOpens", fn := fun _ => fun
  | [d1, d2, d3] => { results := [.lit (.bool true)], args := [d1, d2, d3] }
  | _ => none }
def substOpensRow : OpenClaim := { program := "ytbfmaicoefefaaa", sum := "f3b29d476bc4881ba64de0339ce1cbaad7052a2243464c96484c84ace2aed82a", func := "limbeck/limbecklaw07.SubstOpens", spec := "substOpens", unfollowed := true, recurses := true, loops := true, apart := false }
def SubstOpensSaid : Prop := substOpensRow.holds Try.pinned (OpenSpec.ofChange substOpensSpec)

/-- ITS FALSE NEIGHBOUR: 'it returns false'. Refute it at one input. -/
def substOpensWrong : ChangeSpec := { name := "substOpens", fn := fun _ => fun
  | [d1, d2, d3] => { results := [.lit (.bool false)], args := [d1, d2, d3] }
  | _ => none }
def SubstOpensWrongFalsely : Prop := substOpensRow.holds Try.pinned (OpenSpec.ofChange substOpensWrong)

/-- 'limbecklaw07.SubstTwice': WHATEVER THE INPUT: true; the input reads as it did. -/
def substTwiceSpec : ChangeSpec := { name := "substTwice", fn := fun _ => fun
  | [d1, d2, d3] => { results := [.lit (.bool true)], args := [d1, d2, d3] }
  | _ => none }
def substTwiceRow : OpenClaim := { program := "ytbfmaicoefefaaa", sum := "f3b29d476bc4881ba64de0339ce1cbaad7052a2243464c96484c84ace2aed82a", func := "limbeck/limbecklaw07.SubstTwice", spec := "substTwice", unfollowed := true, recurses := true, loops := true, apart := false }
def SubstTwiceSaid : Prop := substTwiceRow.holds Try.pinned (OpenSpec.ofChange substTwiceSpec)

/-- ITS FALSE NEIGHBOUR: 'it returns false'. Refute it at one input. -/
def substTwiceWrong : ChangeSpec := { name := "substTwice", fn := fun _ => fun
  | [d1, d2, d3] => { results := [.lit (.bool false)], args := [d1, d2, d3] }
  | _ => none }
def SubstTwiceWrongFalsely : Prop := substTwiceRow.holds Try.pinned (OpenSpec.ofChange substTwiceWrong)

/- THE SECOND FORM. 'bulk': how many values and letters a reading holds, each counted each time it is reached (what is shared counts as often as it is met; a slice's spare places count too). A statement '..UptoSaid' is the law's where the arguments, and the package variables that the reading takes, are together of bulk at most 1048576: NARROWER than '..Said'. Prove '..Said' where nothing that the law and all that it calls make is longer than what came in: it says more and counts as full. Else prove '..UptoSaid'. A law counts once. -/
mutual
def uptoBulk {H : Type} : DataW H → Nat
  | .lit (.string bytes) => bytes.length + 1
  | .lit _ => 1
  | .nil => 1
  | .ptr d => uptoBulk d + 1
  | .slice elems spare => uptoBulkAll elems + uptoBulkAll spare + 1
  | .agg parts => uptoBulkAll parts + 1
  | .iface _ d => uptoBulk d + 1
  | .map entries => uptoBulkEntries entries + 1
  | .held _ => 1
def uptoBulkAll {H : Type} : List (DataW H) → Nat
  | [] => 0
  | d :: r => uptoBulk d + uptoBulkAll r
def uptoBulkEntries {H : Type} : List (Lit × DataW H) → Nat
  | [] => 0
  | x :: r => uptoBulkEntry x + uptoBulkEntries r
def uptoBulkEntry {H : Type} : Lit × DataW H → Nat
  | (.string bytes, d) => bytes.length + uptoBulk d + 1
  | (_, d) => uptoBulk d + 1
 end
def uptoSmall : (H : Type) → List (DataW H) → Bool := fun _ ds => decide (uptoBulkAll ds ≤ 1048576)
def OpenSpec.upto (s : _root_.Go.ChangeSpec) : _root_.Go.OpenSpec := { _root_.Go.OpenSpec.ofChange s with cond := some uptoSmall }

/-- 'limbecklaw04.TyRight', WHERE WHAT IT READS IS OF BULK AT MOST 1048576: true; the input reads as it did. -/
def tyRightUptoRow : OpenClaim := { program := "ytbfmaicoefefaaa", sum := "f3b29d476bc4881ba64de0339ce1cbaad7052a2243464c96484c84ace2aed82a", func := "limbeck/limbecklaw04.TyRight", spec := "tyRight", unfollowed := true, recurses := true, loops := true, apart := false, narrowed := true }
def TyRightUptoSaid : Prop := tyRightUptoRow.holds Try.pinned (OpenSpec.upto tyRightSpec)

/-- 'limbecklaw04.TySame', WHERE WHAT IT READS IS OF BULK AT MOST 1048576: true; the input reads as it did. -/
def tySameUptoRow : OpenClaim := { program := "ytbfmaicoefefaaa", sum := "f3b29d476bc4881ba64de0339ce1cbaad7052a2243464c96484c84ace2aed82a", func := "limbeck/limbecklaw04.TySame", spec := "tySame", unfollowed := true, recurses := true, loops := true, apart := false, narrowed := true }
def TySameUptoSaid : Prop := tySameUptoRow.holds Try.pinned (OpenSpec.upto tySameSpec)

/-- 'limbecklaw04.TyMakes', WHERE WHAT IT READS IS OF BULK AT MOST 1048576: true; the input reads as it did. -/
def tyMakesUptoRow : OpenClaim := { program := "ytbfmaicoefefaaa", sum := "f3b29d476bc4881ba64de0339ce1cbaad7052a2243464c96484c84ace2aed82a", func := "limbeck/limbecklaw04.TyMakes", spec := "tyMakes", unfollowed := true, recurses := true, loops := true, apart := false, narrowed := true }
def TyMakesUptoSaid : Prop := tyMakesUptoRow.holds Try.pinned (OpenSpec.upto tyMakesSpec)

/-- 'limbecklaw04.TyTurned', WHERE WHAT IT READS IS OF BULK AT MOST 1048576: true; the input reads as it did. -/
def tyTurnedUptoRow : OpenClaim := { program := "ytbfmaicoefefaaa", sum := "f3b29d476bc4881ba64de0339ce1cbaad7052a2243464c96484c84ace2aed82a", func := "limbeck/limbecklaw04.TyTurned", spec := "tyTurned", unfollowed := true, recurses := true, loops := true, apart := false, narrowed := true }
def TyTurnedUptoSaid : Prop := tyTurnedUptoRow.holds Try.pinned (OpenSpec.upto tyTurnedSpec)

/-- 'limbecklaw07.SubstPuts', WHERE WHAT IT READS IS OF BULK AT MOST 1048576: true; the input reads as it did. -/
def substPutsUptoRow : OpenClaim := { program := "ytbfmaicoefefaaa", sum := "f3b29d476bc4881ba64de0339ce1cbaad7052a2243464c96484c84ace2aed82a", func := "limbeck/limbecklaw07.SubstPuts", spec := "substPuts", unfollowed := true, recurses := true, loops := true, apart := false, narrowed := true }
def SubstPutsUptoSaid : Prop := substPutsUptoRow.holds Try.pinned (OpenSpec.upto substPutsSpec)

/-- 'limbecklaw07.SubstSeals', WHERE WHAT IT READS IS OF BULK AT MOST 1048576: true; the input reads as it did. -/
def substSealsUptoRow : OpenClaim := { program := "ytbfmaicoefefaaa", sum := "f3b29d476bc4881ba64de0339ce1cbaad7052a2243464c96484c84ace2aed82a", func := "limbeck/limbecklaw07.SubstSeals", spec := "substSeals", unfollowed := true, recurses := true, loops := true, apart := false, narrowed := true }
def SubstSealsUptoSaid : Prop := substSealsUptoRow.holds Try.pinned (OpenSpec.upto substSealsSpec)

/-- 'limbecklaw07.SubstOpens', WHERE WHAT IT READS IS OF BULK AT MOST 1048576: true; the input reads as it did. -/
def substOpensUptoRow : OpenClaim := { program := "ytbfmaicoefefaaa", sum := "f3b29d476bc4881ba64de0339ce1cbaad7052a2243464c96484c84ace2aed82a", func := "limbeck/limbecklaw07.SubstOpens", spec := "substOpens", unfollowed := true, recurses := true, loops := true, apart := false, narrowed := true }
def SubstOpensUptoSaid : Prop := substOpensUptoRow.holds Try.pinned (OpenSpec.upto substOpensSpec)

/-- 'limbecklaw07.SubstTwice', WHERE WHAT IT READS IS OF BULK AT MOST 1048576: true; the input reads as it did. -/
def substTwiceUptoRow : OpenClaim := { program := "ytbfmaicoefefaaa", sum := "f3b29d476bc4881ba64de0339ce1cbaad7052a2243464c96484c84ace2aed82a", func := "limbeck/limbecklaw07.SubstTwice", spec := "substTwice", unfollowed := true, recurses := true, loops := true, apart := false, narrowed := true }
def SubstTwiceUptoSaid : Prop := substTwiceUptoRow.holds Try.pinned (OpenSpec.upto substTwiceSpec)

end Rows
end Go.Proofs.Ytbfmaicoefefaaa
