/- limbecklaw07.SubstPuts and SubstSeals, run over any data, where the program's four calls answer as the document does. -/
import Derived.Test.YtllehceckdcbaaaSbA
namespace Go.Proofs.Ytllehceckdcbaaa
open Go.RowKit Pv
/-- What is sealed, or stays. -/
def sealR (names : List ByteArray) (fr : Int) (t : Ty5) : Ty5 := if 0 ≤ fr ∧ fr + names.length ≤ 1073741824 then sealT names fr t else t
def openR (fr : Int) (l : List Ty5) (t : Ty5) : Ty5 := if 0 ≤ fr ∧ fr ≤ 1073741824 then openT fr l t else t
theorem beq_one {x y : Operand} {b : Bool} {K : D → Prop} (hk : K (.raw (.bool true))) : BinK TT .eql 4 x y (.bool b) (.bool b) K :=
  ⟨.bool true, by cases b <;> first | rfl | kernel_rfl, hk⟩
theorem put_nodes {m : List Bd} {B : Nat} (h1 : 1 ≤ B) (hm : ∀ p ∈ m, nodesT p.2 ≤ B) (t : Ty5) : nodesT (putT m t) ≤ nodesT t * B := tr_nodes h1 (fun k n nm u e => by
  unfold putF at e
  split at e
  · obtain ⟨p, hp, _, rfl⟩ := findT_mem e
    exact hm p hp
  · cases e) t
theorem much_bound {t : Ty5} {B : Nat} (h : much t ≤ B) (hB : B < 3000) : nodesT t ≤ B := Nat.le_trans (much_nodes t (by omega)) h
end Go.Proofs.Ytllehceckdcbaaa
