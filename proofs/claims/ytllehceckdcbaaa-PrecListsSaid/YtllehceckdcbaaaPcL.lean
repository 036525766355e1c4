/- limbecklaw08.PrecOrder, PrecFuses and PrecLists, run over any data, where the program's calls answer as the document does. -/
import Derived.Test.YtllehceckdcbaaaPcF
namespace Go.Proofs.Ytllehceckdcbaaa
open Go.RowKit Pv
/-- The program's calls, as the laws need them. -/
structure PrecP : Prop where
  awake : CP (TT ()) 10 [] (· = .raw (.bool true))
  less : ∀ (a b : Ty5), okT a → okT b → nodesT a ≤ 100000 → nodesT b ≤ 100000 → CP (TT ()) 28 [tyD a, tyD b] (· = .raw (.bool (lessT a b)))
  all : ∀ (a b : List Ty5), okT.okL a → okT.okL b → a.length ≤ 1000 → b.length ≤ 1000 → (∀ t ∈ a, nodesT t ≤ 100000) → (∀ t ∈ b, nodesT t ≤ 100000) → CP (TT ()) 11 [.sl none 5 (tysD a), .sl none 5 (tysD b)] (· = .raw (.bool (lessL a b)))
  binds : ∀ (a b : List Bd), okB a → okB b → a.length ≤ 1000 → b.length ≤ 1000 → (∀ t ∈ a, nodesT t.2 ≤ 100000) → (∀ t ∈ b, nodesT t.2 ≤ 100000) → CP (TT ()) 13 [.sl none 6 (bnsD a), .sl none 6 (bnsD b)] (· = .raw (.bool (lessB a b)))
  fuse : ∀ (a b : Ty5), okT a → okT b → nodesT a ≤ 100000 → nodesT b ≤ 100000 → CP (TT ()) 26 [tyD a, tyD b] (· = optP (fuseT a b))
theorem beqF_one {x y : Operand} {b : Bool} {K : D → Prop} (hk : K (.raw (.bool true))) : BinK TT .eql 4 x y (.bool b) (.bool b) K :=
  ⟨.bool true, by cases b <;> first | rfl | kernel_rfl, hk⟩
theorem pbound {t : Ty5} {B : Nat} (h : much t ≤ B) (hB : B < 3000) : nodesT t ≤ B := Nat.le_trans (much_nodes t (by omega)) h
mutual
theorem fuse_nodes : ∀ {a b t : Ty5}, fuseT a b = some t → nodesT t ≤ nodesT a + nodesT b
  | .mk k n nm ls ks, .mk k' n' nm' ls' ks', t, h => by
    simp only [fuseT] at h
    split at h
    · cases h; omega
    · split at h
      · cases h; omega
      · split at h
        · obtain ⟨vs, hv, rfl⟩ := Option.map_eq_some_iff.1 h
          have := fuseL_nodes hv
          simp only [nodesT]; omega
        · cases h
theorem fuseL_nodes : ∀ {a b vs : List Ty5}, fuseL a b = some vs → nodesL vs ≤ nodesL a + nodesL b
  | [], [], vs, h => by cases h; exact Nat.zero_le _
  | t :: r, u :: q, vs, h => by
    simp only [fuseL] at h
    split at h
    · rename_i v hv
      obtain ⟨ws, hw, rfl⟩ := Option.map_eq_some_iff.1 h
      have := fuse_nodes hv
      have := fuseL_nodes hw
      simp only [nodesL]; omega
    · cases h
  | [], _ :: _, _, h => by cases h
  | _ :: _, [], _, h => by cases h
end
mutual
theorem fuse_ok : ∀ {a b t : Ty5}, okT a → okT b → fuseT a b = some t → okT t
  | .mk k n nm ls ks, .mk k' n' nm' ls' ks', t, ha, hb, h => by
    simp only [fuseT] at h
    split at h
    · cases h; exact ha
    · split at h
      · cases h; exact hb
      · split at h
        · obtain ⟨vs, hv, rfl⟩ := Option.map_eq_some_iff.1 h
          exact ⟨ha.1, ha.2.1, fuseL_ok ha.2.2 hb.2.2 hv⟩
        · cases h
theorem fuseL_ok : ∀ {a b vs : List Ty5}, okT.okL a → okT.okL b → fuseL a b = some vs → okT.okL vs
  | [], [], vs, _, _, h => by cases h; trivial
  | t :: r, u :: q, vs, ha, hb, h => by
    simp only [fuseL] at h
    split at h
    · rename_i v hv
      obtain ⟨ws, hw, rfl⟩ := Option.map_eq_some_iff.1 h
      exact ⟨fuse_ok ha.1 hb.1 hv, fuseL_ok ha.2 hb.2 hw⟩
    · cases h
  | [], _ :: _, _, _, _, h => by cases h
  | _ :: _, [], _, _, _, h => by cases h
end
theorem ty0_okk : okT ty0 := ⟨by decide, fun s h => (by cases h), trivial⟩
theorem optT_ok {a b : Ty5} (ha : okT a) (hb : okT b) : okT (optT (fuseT a b)) := by
  rcases h : fuseT a b with _ | t
  · exact ty0_okk
  · exact fuse_ok ha hb h
theorem optT_nodes (a b : Ty5) : nodesT (optT (fuseT a b)) ≤ nodesT a + nodesT b := by
  rcases h : fuseT a b with _ | t
  · have := nodes_one a
    show 1 ≤ _
    omega
  · exact fuse_nodes h
end Go.Proofs.Ytllehceckdcbaaa
