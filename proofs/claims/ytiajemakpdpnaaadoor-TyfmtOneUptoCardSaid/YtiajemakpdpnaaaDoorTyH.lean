/- ty.Depth, ty.Has: the greatest depth, and a kind, of what a range over a type's nodes is handed. -/
import Derived.Test.YtiajemakpdpnaaaDoorTyC
namespace Go.Proofs.YtiajemakpdpnaaaDoor
open Go.RowKit Go.Shelf
attribute [local go_sem] Oper.semAt_some
mutual
theorem depth_fold : ∀ (t : Ty5) (d g : Int), 0 ≤ d → d + depthT t ≤ 1000001 → (walkT d t).foldl (fun g p => max g p.1) g = max g (d + depthT t - 1)
  | .mk k n nm ls ks, d, g, h0, h1 => by
    simp only [depthT] at h1 ⊢
    simp only [walkT, List.foldl_cons]
    rw [wrap_small (by omega) (by omega), depthL_fold ks (d + 1) (max g d) (by omega) (by omega) (by omega)]
    omega
theorem depthL_fold : ∀ (ks : List Ty5) (d g : Int), 0 ≤ d → d - 1 ≤ g → d + depthL ks ≤ 1000001 → (walkL d ks).foldl (fun g p => max g p.1) g = max g (d + depthL ks - 1)
  | [], d, g, h0, hg, h1 => by
    simp only [walkL, depthL, List.foldl_nil]
    omega
  | t :: r, d, g, h0, hg, h1 => by
    simp only [depthL] at h1 ⊢
    simp only [walkL, List.foldl_append]
    rw [depth_fold t d g h0 (by omega), depthL_fold r d _ h0 (by omega) (by omega)]
    omega
end
def gmax {w0 : World} (xs : List (Nd w0)) : Int := xs.foldl (fun g x => max g x.d) 0
theorem gmax_snoc {w0 : World} (xs : List (Nd w0)) (x : Nd w0) : gmax (xs ++ [x]) = max (gmax xs) x.d := by simp [gmax]
theorem gmax_keys {w0 : World} {xs : List (Nd w0)} {t : Ty5} (h : xs.map Nd.key = walkT 1 t) (hn : nodesT t ≤ 1000000) : gmax xs = depthT t := by
  have h1 := depth_fold t 1 0 (by omega) (by have := depth_nodes t; omega)
  rw [← h, List.foldl_map] at h1
  unfold gmax
  refine Eq.trans ?_ (h1.trans (by omega))
  rfl
mutual
theorem has_walk (kd : Int) : ∀ (t : Ty5) (d : Int), (walkT d t).any (fun p => p.2.k == kd) = hasT kd t
  | .mk k n nm ls ks, d => by
    simp only [walkT, hasT, List.any_cons]
    rw [hasL_walk kd ks]
    rfl
theorem hasL_walk (kd : Int) : ∀ (ks : List Ty5) (d : Int), (walkL d ks).any (fun p => p.2.k == kd) = hasL kd ks
  | [], d => rfl
  | t :: r, d => by
    simp only [walkL, hasL, List.any_append]
    rw [has_walk kd t, hasL_walk kd r]
end
/-- A block with a node's five cells. -/
def Box5 (W : World) (B : Nat) {w0 : World} (x : Nd w0) : Prop := W.heap[B]? = some (.cells #[x.v0, x.v1, x.v2, x.v3, x.v4] 25 (0, 0))
theorem box5_own {w0 : World} (B : Nat) (x : Nd w0) : Own (fun (_ : Unit) W => Box5 W B x) := fun s X Y row hs hg hrow => by
  have hlt : B < X.heap.size := (Array.getElem?_eq_some_iff.1 (show X.heap[B]? = _ from hs)).1
  exact (hg.block B hlt (fun e' => by obtain ⟨o, ho, hc⟩ := hrow B e'.symm; rw [show X.heap[B]? = _ from hs] at ho; cases ho; cases hc)).trans hs
theorem Box5.kind {W : World} {B : Nat} {w0 : World} {x : Nd w0} (h : Box5 W B x) : W.cell? ⟨B, 0, none⟩ = some (.int .i64 x.t.k) := by
  obtain ⟨d, ⟨k', n', nm', ls', ks'⟩, u0, u1, u2, u3, u4, hu⟩ := x
  have h1 := box_cell (i := 0) h rfl
  obtain ⟨rfl, _⟩ := hu
  exact h1
theorem any_part {w0 : World} {pre : List (Nd w0)} {l : List (Int × Ty5)} {p : Int × Ty5 → Bool} (h : pre.map Nd.key <+: l) {y : Nd w0} (hy : y ∈ pre) (hp : p y.key = true) : l.any p = true :=
  List.any_eq_true.2 ⟨y.key, h.subset (List.mem_map_of_mem hy), hp⟩
theorem any_none {w0 : World} {pre : List (Nd w0)} {l : List (Int × Ty5)} {p : Int × Ty5 → Bool} (h : pre.map Nd.key = l) (hy : ∀ y ∈ pre, p y.key = false) : l.any p = false := by
  rw [← h, Bool.eq_false_iff]
  intro hc
  obtain ⟨q, hq, hp⟩ := List.any_eq_true.1 hc
  obtain ⟨y, hy', rfl⟩ := List.mem_map.1 hq
  rw [hy y hy'] at hp
  cases hp
end Go.Proofs.YtiajemakpdpnaaaDoor
